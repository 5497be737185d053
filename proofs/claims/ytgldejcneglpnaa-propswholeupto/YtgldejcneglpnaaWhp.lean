/- PropsWhole in plain terms: which tags Tag tells of a tag between angles, and of words behind a handle. -/
import Derived.Test.YtgldejcneglpnaaVep
set_option linter.unusedVariables false
set_option linter.unusedSimpArgs false
namespace Go.Proofs.Ytgldejcneglpnaa
open Go

theorem iAt_left {a b : List Int} {j : Nat} (h : j < a.length) : iAt (a ++ b) j = iAt a j := by
  unfold iAt
  rw [List.getElem?_append_left h]
theorem iAt_right {a b : List Int} {j : Nat} : iAt (a ++ b) (a.length + j) = iAt b j := by
  unfold iAt
  rw [List.getElem?_append_right (by omega), Nat.add_sub_cancel_left]

/-- Signs between something and a sign that is none. -/
theorem uN_mid {A l r : List Int} {c : Int} (h1 : uriP c = false) (h2 : c ≠ 37) (h3 : hexOk c = false) {j : Nat} (hj : j ≤ l.length) : uN l j = uN (A ++ (l ++ c :: r)) (A.length + j) := by
  have hL : (A ++ (l ++ c :: r)).length = A.length + (l.length + (r.length + 1)) := by simp
  have at0 : ∀ i, i < l.length → iAt (A ++ (l ++ c :: r)) (A.length + i) = iAt l i := fun i hi => by rw [iAt_right, iAt_left hi]
  have atc : iAt (A ++ (l ++ c :: r)) (A.length + l.length) = c := by
    rw [iAt_right]
    have := iAt_right (a := l) (b := c :: r) (j := 0)
    rw [Nat.add_zero] at this
    rw [this]
    rfl
  by_cases hlt : j < l.length
  · unfold uN
    rw [at0 j hlt, hL, if_neg (by omega : ¬ l.length ≤ j), if_neg (by omega : ¬ A.length + (l.length + (r.length + 1)) ≤ A.length + j)]
    by_cases hu : uriP (iAt l j) = true
    · rw [if_pos hu, if_pos hu]
    · rw [if_neg hu, if_neg hu]
      by_cases h5 : j + 2 < l.length
      · have b1 : iAt (A ++ (l ++ c :: r)) (A.length + j + 1) = iAt l (j + 1) := by rw [Nat.add_assoc]; exact at0 _ (by omega)
        have b2 : iAt (A ++ (l ++ c :: r)) (A.length + j + 2) = iAt l (j + 2) := by rw [Nat.add_assoc]; exact at0 _ (by omega)
        rw [b1, b2]
        have e1 : (j + 2 < l.length) = True := eq_true h5
        have e2 : (A.length + j + 2 < A.length + (l.length + (r.length + 1))) = True := eq_true (by omega)
        simp only [e1, e2]
      · have n1 : ¬ (iAt l j = 37 ∧ j + 2 < l.length ∧ hexOk (iAt l (j + 1)) = true ∧ hexOk (iAt l (j + 2)) = true) := fun h => h5 h.2.1
        have n2 : ¬ (iAt l j = 37 ∧ A.length + j + 2 < A.length + (l.length + (r.length + 1)) ∧ hexOk (iAt (A ++ (l ++ c :: r)) (A.length + j + 1)) = true ∧ hexOk (iAt (A ++ (l ++ c :: r)) (A.length + j + 2)) = true) := by
          rintro ⟨-, -, a3, a4⟩
          by_cases h6 : j + 1 = l.length
          · rw [show A.length + j + 1 = A.length + l.length by omega, atc, h3] at a3
            cases a3
          · rw [show A.length + j + 2 = A.length + l.length by omega, atc, h3] at a4
            cases a4
        rw [if_neg n1, if_neg n2]
  · obtain rfl : j = l.length := by omega
    unfold uN
    rw [if_pos (Nat.le_refl _), atc, if_neg (by omega), h1, if_neg (by simp), if_neg (fun h => h2 h.1)]

theorem run_mid {A l r : List Int} {c : Int} (h1 : uriP c = false) (h2 : c ≠ 37) (h3 : hexOk c = false) (ho : runE (uN l) l.length 0 = l.length) : runE (uN (A ++ (l ++ c :: r))) (A ++ (l ++ c :: r)).length A.length = A.length + l.length := by
  have := runE_agree (a := A.length) (m := l.length) (uN_bd (A ++ (l ++ c :: r))) (uN_bd l) (fun j hj => uN_mid h1 h2 h3 hj) l.length 0 (Nat.zero_le _) (by omega)
  rw [Nat.add_zero, ho] at this
  exact this

/-- A tag between angles. -/
theorem whole_angles {l : List Int} (h : onlyP l = true) : tagP ([33, 60] ++ (l ++ [62, 32, 120])) = some (60 :: l, l.length + 3) := by
  obtain ⟨h1, h2⟩ := of_decide_eq_true h
  have hr := run_mid (A := [33, 60]) (l := l) (r := [32, 120]) (c := 62) (by decide) (by decide) (by decide) h2
  have hL : ([33, 60] ++ (l ++ [62, 32, 120])).length = 2 + (l.length + 3) := by simp; omega
  have hi : iAt ([33, 60] ++ (l ++ [62, 32, 120])) (2 + l.length) = 62 := by
    have h5 := iAt_right (a := [33, 60]) (b := l ++ [62, 32, 120]) (j := l.length)
    have h6 := iAt_right (a := l) (b := [62, 32, 120]) (j := 0)
    rw [Nat.add_zero] at h6
    rw [h6] at h5
    exact h5
  unfold tagP
  rw [if_neg (fun h => by rcases h with h | h; rw [hL] at h; omega; exact h rfl), if_pos ⟨by rw [hL]; omega, rfl⟩]
  unfold angP
  have hr' : runE (uN ([33, 60] ++ (l ++ [62, 32, 120]))) ([33, 60] ++ (l ++ [62, 32, 120])).length 2 = 2 + l.length := hr
  rw [hr', hi, hL]
  rw [if_neg (fun h => by rcases h with h | h | h; omega; omega; exact h rfl)]
  congr 2
  · show List.take (2 + l.length - 1) (60 :: (l ++ [62, 32, 120])) = 60 :: l
    rw [show 2 + l.length - 1 = l.length + 1 by omega, List.take_succ_cons]
    simp
  · omega

theorem run_ones {n : Nat → Nat} {L : Nat} (hb : Bd n L) : ∀ m a, (∀ j, j < m → n (a + j) = 1) → n (a + m) = 0 → runE n L a = a + m := by
  intro m
  induction m with
  | zero => intro a _ h; exact runE_stop h
  | succ m ih =>
    intro a h1 h2
    have h3 := h1 0 (by omega)
    rw [Nat.add_zero] at h3
    have h4 := runE_step hb (k := a) (by omega)
    rw [h3] at h4
    rw [← h4, ih (a + 1) (fun j hj => by rw [Nat.add_assoc, Nat.add_comm 1 j]; exact h1 (j + 1) (by omega)) (by rw [Nat.add_assoc, Nat.add_comm 1 m]; exact h2)]
    omega
theorem word_uri {c : Int} (h : wordP c = true) : uriP c = true ∧ c ≠ 33 ∧ flowP c = false ∧ c ≠ 60 := by
  have := of_decide_eq_true h
  refine ⟨by unfold uriP; rw [h]; rfl, by omega, ?_, by omega⟩
  unfold flowP
  exact decide_eq_false (by omega)
/-- Words, and then a sign that ends them. -/
theorem words_run {A l r : List Int} {c : Int} (hw : ∀ x ∈ l, wordP x = true) (hc : sN (A ++ (l ++ c :: r)) (A.length + l.length) = 0) : runE (sN (A ++ (l ++ c :: r))) (A ++ (l ++ c :: r)).length A.length = A.length + l.length := by
  refine run_ones (sN_bd _) l.length A.length (fun j hj => ?_) hc
  have h1 : iAt (A ++ (l ++ c :: r)) (A.length + j) = iAt l j := by rw [iAt_right, iAt_left hj]
  have h2 : iAt l j ∈ l := by
    unfold iAt
    rw [List.getElem?_eq_getElem hj]
    exact List.getElem_mem hj
  obtain ⟨a1, a2, a3, -⟩ := word_uri (hw _ h2)
  unfold sN uN
  rw [h1, if_neg (fun h => by rcases h.2 with h | h; exact a2 h; rw [a3] at h; cases h), if_neg (by simp; omega), if_pos a1]
theorem sN_at {t : List Int} {k : Nat} {c : Int} (h : iAt t k = c) (hc : flowP c = true ∨ (uriP c = false ∧ c ≠ 37)) : sN t k = 0 := by
  unfold sN
  rw [h]
  split
  · rfl
  · rename_i h1
    unfold uN
    rw [h]
    split
    · rfl
    · rename_i h2
      rcases hc with h3 | ⟨h3, h4⟩
      · exact absurd ⟨by omega, .inr h3⟩ h1
      · rw [h3, if_neg (by simp), if_neg (fun h => h4 h.1)]
theorem at_end (A l r : List Int) (c : Int) : iAt (A ++ (l ++ c :: r)) (A.length + l.length) = c := by
  rw [iAt_right]
  have := iAt_right (a := l) (b := c :: r) (j := 0)
  rw [Nat.add_zero] at this
  rw [this]
  rfl

/-- One !, and words. -/
theorem whole_one {l : List Int} (h0 : 0 < l.length) (hw : ∀ x ∈ l, wordP x = true) : tagP ([33] ++ (l ++ [32, 120])) = some (33 :: l, l.length + 1) := by
  have hL : ([33] ++ (l ++ [32, 120])).length = 1 + (l.length + 2) := by simp; omega
  have he := at_end [33] l [120] 32
  have he' : iAt ([33] ++ (l ++ [32, 120])) (1 + l.length) = 32 := he
  have hf : iAt ([33] ++ (l ++ [32, 120])) 1 = iAt l 0 := by
    have := iAt_right (a := [33]) (b := l ++ [32, 120]) (j := 0)
    rw [iAt_left h0] at this
    exact this
  have hm : iAt l 0 ∈ l := by
    unfold iAt
    rw [List.getElem?_eq_getElem h0]
    exact List.getElem_mem h0
  obtain ⟨-, -, -, a4⟩ := word_uri (hw _ hm)
  have hwr : wrE ([33] ++ (l ++ [32, 120])) = 1 + l.length := by
    unfold wrE
    rw [cnt_drop]
    show 1 + cnt wordP (l ++ [32, 120]) = _
    rw [cnt_app _ hw, cnt_not _ (by decide)]
    omega
  have hB : hdB ([33] ++ (l ++ [32, 120])) = false := by
    unfold hdB
    rw [hwr, he']
    exact decide_eq_false (fun h => by have := h.2; omega)
  have hP : hdP ([33] ++ (l ++ [32, 120])) = 1 := by unfold hdP; rw [hB]; rfl
  have hr := words_run (A := [33]) (l := l) (c := 32) (r := [120]) hw (sN_at he (.inr ⟨by decide, by decide⟩))
  have hr' : runE (sN ([33] ++ (l ++ [32, 120]))) ([33] ++ (l ++ [32, 120])).length 1 = 1 + l.length := hr
  unfold tagP
  rw [if_neg (fun h => by rcases h with h | h; rw [hL] at h; omega; exact h rfl), if_neg (fun h => a4 (hf ▸ h.2))]
  unfold shP
  rw [hB, hP, hr', if_neg (fun h => by cases h.1)]
  congr 2
  · show List.take (1 + l.length) (33 :: (l ++ [32, 120])) = 33 :: l
    rw [show 1 + l.length = l.length + 1 by omega, List.take_succ_cons]
    simp
  · omega
/-- Two !, and words. -/
theorem whole_two {l : List Int} (h0 : 0 < l.length) (hw : ∀ x ∈ l, wordP x = true) : tagP ([33, 33] ++ (l ++ [32, 120])) = some (33 :: 33 :: l, l.length + 2) := by
  have hL : ([33, 33] ++ (l ++ [32, 120])).length = 2 + (l.length + 2) := by simp; omega
  have he := at_end [33, 33] l [120] 32
  have hwr : wrE ([33, 33] ++ (l ++ [32, 120])) = 1 := by
    unfold wrE
    rw [cnt_drop]
    show 1 + cnt wordP (33 :: (l ++ [32, 120])) = _
    rw [cnt_not _ (by decide)]
  have hB : hdB ([33, 33] ++ (l ++ [32, 120])) = true := by
    unfold hdB
    rw [hwr]
    exact decide_eq_true ⟨by rw [hL]; omega, rfl⟩
  have hP : hdP ([33, 33] ++ (l ++ [32, 120])) = 2 := by unfold hdP; rw [hB, hwr]; rfl
  have hr := words_run (A := [33, 33]) (l := l) (c := 32) (r := [120]) hw (sN_at he (.inr ⟨by decide, by decide⟩))
  have hr' : runE (sN ([33, 33] ++ (l ++ [32, 120]))) ([33, 33] ++ (l ++ [32, 120])).length 2 = 2 + l.length := hr
  unfold tagP
  rw [if_neg (fun h => by rcases h with h | h; rw [hL] at h; omega; exact h rfl), if_neg (fun h => by have h5 : (33 : Int) = 60 := h.2; omega)]
  unfold shP
  rw [hP, hr', if_neg (fun h => by have := h.2; omega)]
  congr 2
  · show List.take (2 + l.length) (33 :: 33 :: (l ++ [32, 120])) = 33 :: 33 :: l
    rw [show 2 + l.length = l.length + 1 + 1 by omega, List.take_succ_cons, List.take_succ_cons]
    simp
  · omega
/-- A handle, and words. -/
theorem whole_hand {l : List Int} (h0 : 0 < l.length) (hw : ∀ x ∈ l, wordP x = true) : tagP ([33, 104, 33] ++ (l ++ [44, 120])) = some (33 :: 104 :: 33 :: l, l.length + 3) := by
  have hL : ([33, 104, 33] ++ (l ++ [44, 120])).length = 3 + (l.length + 2) := by simp; omega
  have he := at_end [33, 104, 33] l [120] 44
  have hwr : wrE ([33, 104, 33] ++ (l ++ [44, 120])) = 2 := by
    unfold wrE
    rw [cnt_drop]
    show 1 + cnt wordP ([104] ++ 33 :: (l ++ [44, 120])) = _
    rw [cnt_app _ (by decide), cnt_not _ (by decide)]
    rfl
  have hB : hdB ([33, 104, 33] ++ (l ++ [44, 120])) = true := by
    unfold hdB
    rw [hwr]
    exact decide_eq_true ⟨by rw [hL]; omega, rfl⟩
  have hP : hdP ([33, 104, 33] ++ (l ++ [44, 120])) = 3 := by unfold hdP; rw [hB, hwr]; rfl
  have hr := words_run (A := [33, 104, 33]) (l := l) (c := 44) (r := [120]) hw (sN_at he (.inl (by decide)))
  have hr' : runE (sN ([33, 104, 33] ++ (l ++ [44, 120]))) ([33, 104, 33] ++ (l ++ [44, 120])).length 3 = 3 + l.length := hr
  unfold tagP
  rw [if_neg (fun h => by rcases h with h | h; rw [hL] at h; omega; exact h rfl), if_neg (fun h => by have h5 : (104 : Int) = 60 := h.2; omega)]
  unfold shP
  rw [hP, hr', if_neg (fun h => by have := h.2; omega)]
  congr 2
  · show List.take (3 + l.length) (33 :: 104 :: 33 :: (l ++ [44, 120])) = 33 :: 104 :: 33 :: l
    rw [show 3 + l.length = l.length + 1 + 1 + 1 by omega, List.take_succ_cons, List.take_succ_cons, List.take_succ_cons]
    simp
  · omega
end Go.Proofs.Ytgldejcneglpnaa
