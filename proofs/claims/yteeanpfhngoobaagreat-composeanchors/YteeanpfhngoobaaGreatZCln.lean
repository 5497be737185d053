/- Whether an event has what its kind names: the program's clean and the document's right. -/
import Derived.Test.YteeanpfhngoobaaGreatZEvs
set_option linter.unusedVariables false
set_option linter.unusedSimpArgs false
namespace Go.Proofs.YteeanpfhngoobaaGreat
open Go.RowKit Go.Shelf

set_option maxRecDepth 100000 in
set_option maxHeartbeats 2000000 in
theorem clean_doc (x : Ev) (w : World) (hk : x.k = 1 ∨ x.k = 2) : Calls Tryz.prog 35 #[x.v] w fun e w' => e = .returned (.bool (cleanP x)) ∧ Below w.heap.size w w' := by
  obtain ⟨k, tx, tg, an, st, fl⟩ := x
  obtain ⟨V, hV⟩ : ∃ V, cleanP ⟨k, tx, tg, an, st, fl⟩ = V := ⟨_, rfl⟩
  rw [hV]
  dsimp only [Ev.v] at hk ⊢
  have HV : Hid (cleanP ⟨k, tx, tg, an, st, fl⟩ = V) := hV
  clear hV
  rcases hk with rfl | rfl
  · go_enter Tryz.func35, Tryz.ntmps35
    go_wp2
    all_goals
      go_ret
      refine ⟨ret_bool ?_, (Below.refl _ w).alloc (Nat.le_refl _) _⟩
      rw [← HV.out]
      unfold cleanP
      simp [*]
  · go_enter Tryz.func35, Tryz.ntmps35
    go_wp2
    all_goals
      go_ret
      refine ⟨ret_bool ?_, (Below.refl _ w).alloc (Nat.le_refl _) _⟩
      rw [← HV.out]
      unfold cleanP
      simp [*]

set_option maxRecDepth 100000 in
set_option maxHeartbeats 2000000 in
theorem clean_col (x : Ev) (w : World) (hk : x.k = 3 ∨ x.k = 5) : Calls Tryz.prog 35 #[x.v] w fun e w' => e = .returned (.bool (cleanP x)) ∧ Below w.heap.size w w' := by
  obtain ⟨k, tx, tg, an, st, fl⟩ := x
  obtain ⟨V, hV⟩ : ∃ V, cleanP ⟨k, tx, tg, an, st, fl⟩ = V := ⟨_, rfl⟩
  rw [hV]
  dsimp only [Ev.v] at hk ⊢
  have HV : Hid (cleanP ⟨k, tx, tg, an, st, fl⟩ = V) := hV
  clear hV
  rcases hk with rfl | rfl
  · go_enter Tryz.func35, Tryz.ntmps35
    go_wp2
    all_goals
      go_ret
      refine ⟨ret_bool ?_, (Below.refl _ w).alloc (Nat.le_refl _) _⟩
      rw [← HV.out]
      unfold cleanP
      simp [*]
  · go_enter Tryz.func35, Tryz.ntmps35
    go_wp2
    all_goals
      go_ret
      refine ⟨ret_bool ?_, (Below.refl _ w).alloc (Nat.le_refl _) _⟩
      rw [← HV.out]
      unfold cleanP
      simp [*]

set_option maxRecDepth 100000 in
set_option maxHeartbeats 2000000 in
theorem clean_end (x : Ev) (w : World) (hk : x.k = 4 ∨ x.k = 6) : Calls Tryz.prog 35 #[x.v] w fun e w' => e = .returned (.bool (cleanP x)) ∧ Below w.heap.size w w' := by
  obtain ⟨k, tx, tg, an, st, fl⟩ := x
  obtain ⟨V, hV⟩ : ∃ V, cleanP ⟨k, tx, tg, an, st, fl⟩ = V := ⟨_, rfl⟩
  rw [hV]
  dsimp only [Ev.v] at hk ⊢
  have HV : Hid (cleanP ⟨k, tx, tg, an, st, fl⟩ = V) := hV
  clear hV
  rcases hk with rfl | rfl
  · go_enter Tryz.func35, Tryz.ntmps35
    go_wp2
    all_goals
      go_ret
      refine ⟨ret_bool ?_, (Below.refl _ w).alloc (Nat.le_refl _) _⟩
      rw [← HV.out]
      unfold cleanP
      simp [*]
  · go_enter Tryz.func35, Tryz.ntmps35
    go_wp2
    all_goals
      go_ret
      refine ⟨ret_bool ?_, (Below.refl _ w).alloc (Nat.le_refl _) _⟩
      rw [← HV.out]
      unfold cleanP
      simp [*]

set_option maxRecDepth 100000 in
set_option maxHeartbeats 2000000 in
theorem clean_ali (x : Ev) (w : World) (hk : x.k = 8) : Calls Tryz.prog 35 #[x.v] w fun e w' => e = .returned (.bool (cleanP x)) ∧ Below w.heap.size w w' := by
  obtain ⟨k, tx, tg, an, st, fl⟩ := x
  obtain ⟨V, hV⟩ : ∃ V, cleanP ⟨k, tx, tg, an, st, fl⟩ = V := ⟨_, rfl⟩
  rw [hV]
  dsimp only [Ev.v] at hk ⊢
  have HV : Hid (cleanP ⟨k, tx, tg, an, st, fl⟩ = V) := hV
  clear hV
  subst hk
  go_enter Tryz.func35, Tryz.ntmps35
  go_wp2
  all_goals
    go_ret
    refine ⟨ret_bool ?_, (Below.refl _ w).alloc (Nat.le_refl _) _⟩
    rw [← HV.out]
    unfold cleanP
    simp [*]
    all_goals (cases an.toList <;> simp)

set_option maxRecDepth 100000 in
set_option maxHeartbeats 2000000 in
theorem clean_oth (x : Ev) (w : World) (hk : ¬ x.k = 1 ∧ ¬ x.k = 2 ∧ ¬ x.k = 3 ∧ ¬ x.k = 4 ∧ ¬ x.k = 5 ∧ ¬ x.k = 6 ∧ ¬ x.k = 7 ∧ ¬ x.k = 8) : Calls Tryz.prog 35 #[x.v] w fun e w' => e = .returned (.bool (cleanP x)) ∧ Below w.heap.size w w' := by
  obtain ⟨k, tx, tg, an, st, fl⟩ := x
  obtain ⟨V, hV⟩ : ∃ V, cleanP ⟨k, tx, tg, an, st, fl⟩ = V := ⟨_, rfl⟩
  rw [hV]
  dsimp only [Ev.v] at hk ⊢
  have HV : Hid (cleanP ⟨k, tx, tg, an, st, fl⟩ = V) := hV
  clear hV
  obtain ⟨h1, h2, h3, h4, h5, h6, h7, h8⟩ := hk
  go_enter Tryz.func35, Tryz.ntmps35
  go_wp2
  all_goals
    go_ret
    refine ⟨ret_bool ?_, (Below.refl _ w).alloc (Nat.le_refl _) _⟩
    rw [← HV.out]
    unfold cleanP
    simp [*]

set_option maxRecDepth 100000 in
set_option maxHeartbeats 2000000 in
theorem clean_sca (x : Ev) (w : World) (hk : x.k = 7) : Calls Tryz.prog 35 #[x.v] w fun e w' => e = .returned (.bool (cleanP x)) ∧ Below w.heap.size w w' := by
  obtain ⟨k, tx, tg, an, st, fl⟩ := x
  obtain ⟨V, hV⟩ : ∃ V, cleanP ⟨k, tx, tg, an, st, fl⟩ = V := ⟨_, rfl⟩
  rw [hV]
  dsimp only [Ev.v] at hk ⊢
  have HV : Hid (cleanP ⟨k, tx, tg, an, st, fl⟩ = V) := hV
  clear hV
  subst hk
  go_enter Tryz.func35, Tryz.ntmps35
  go_wp2
  all_goals
    go_ret
    refine ⟨ret_bool ?_, ((Below.refl _ w).alloc (Nat.le_refl _) _).alloc (by simp) _⟩
    rw [← HV.out]
    unfold cleanP
    simp [*] <;> omega

theorem clean_any (x : Ev) (w : World) : Calls Tryz.prog 35 #[x.v] w fun e w' => e = .returned (.bool (cleanP x)) ∧ Below w.heap.size w w' := by
  by_cases h1 : x.k = 1
  · exact clean_doc x w (.inl h1)
  by_cases h2 : x.k = 2
  · exact clean_doc x w (.inr h2)
  by_cases h3 : x.k = 3
  · exact clean_col x w (.inl h3)
  by_cases h5 : x.k = 5
  · exact clean_col x w (.inr h5)
  by_cases h4 : x.k = 4
  · exact clean_end x w (.inl h4)
  by_cases h6 : x.k = 6
  · exact clean_end x w (.inr h6)
  by_cases h7 : x.k = 7
  · exact clean_sca x w h7
  by_cases h8 : x.k = 8
  · exact clean_ali x w h8
  exact clean_oth x w ⟨h1, h2, h3, h4, h5, h6, h7, h8⟩
end Go.Proofs.YteeanpfhngoobaaGreat
