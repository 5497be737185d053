/- The document's right. -/
import Derived.Test.YteeanpfhngoobaaGreatZRcl
set_option linter.unusedVariables false
set_option linter.unusedSimpArgs false
namespace Go.Proofs.YteeanpfhngoobaaGreat
open Go.RowKit Go.Shelf

set_option maxRecDepth 100000 in
set_option maxHeartbeats 2000000 in
theorem rclean_7 (x : Ev) (w : World) (hk : x.k = 7) : Calls Tryz.prog 41 #[x.v] w fun e w' => e = .returned (.bool (rcleanP x)) ∧ Below w.heap.size w w' := by
  obtain ⟨k, tx, tg, an, st, fl⟩ := x
  obtain ⟨V, hV⟩ : ∃ V, rcleanP ⟨k, tx, tg, an, st, fl⟩ = V := ⟨_, rfl⟩
  rw [hV]
  dsimp only [Ev.v] at hk ⊢
  have HV : Hid (rcleanP ⟨k, tx, tg, an, st, fl⟩ = V) := hV
  clear hV
  subst hk
  go_enter Tryz.func41, Tryz.ntmps41
  go_wp2
  all_goals
    go_ret
    refine ⟨ret_bool ?_, (Below.refl _ w).alloc (Nat.le_refl _) _⟩
    rw [← HV.out]
    unfold rcleanP
    simp [*] <;> (intro h0; omega)

set_option maxRecDepth 100000 in
set_option maxHeartbeats 2000000 in
theorem rclean_8 (x : Ev) (w : World) (hk : x.k = 8) : Calls Tryz.prog 41 #[x.v] w fun e w' => e = .returned (.bool (rcleanP x)) ∧ Below w.heap.size w w' := by
  obtain ⟨k, tx, tg, an, st, fl⟩ := x
  obtain ⟨V, hV⟩ : ∃ V, rcleanP ⟨k, tx, tg, an, st, fl⟩ = V := ⟨_, rfl⟩
  rw [hV]
  dsimp only [Ev.v] at hk ⊢
  have HV : Hid (rcleanP ⟨k, tx, tg, an, st, fl⟩ = V) := hV
  clear hV
  subst hk
  go_enter Tryz.func41, Tryz.ntmps41
  go_wp2
  all_goals
    go_ret
    refine ⟨ret_bool ?_, (Below.refl _ w).alloc (Nat.le_refl _) _⟩
    rw [← HV.out]
    unfold rcleanP
    simp [*] <;> (cases ha : an.toList <;> simp_all)

set_option maxRecDepth 100000 in
set_option maxHeartbeats 2000000 in
theorem rclean_oth (x : Ev) (w : World) (hk : ¬ x.k = 1 ∧ ¬ x.k = 2 ∧ ¬ x.k = 3 ∧ ¬ x.k = 5 ∧ ¬ x.k = 7 ∧ ¬ x.k = 8) : Calls Tryz.prog 41 #[x.v] w fun e w' => e = .returned (.bool (rcleanP x)) ∧ Below w.heap.size w w' := by
  obtain ⟨k, tx, tg, an, st, fl⟩ := x
  obtain ⟨V, hV⟩ : ∃ V, rcleanP ⟨k, tx, tg, an, st, fl⟩ = V := ⟨_, rfl⟩
  rw [hV]
  dsimp only [Ev.v] at hk ⊢
  have HV : Hid (rcleanP ⟨k, tx, tg, an, st, fl⟩ = V) := hV
  clear hV
  obtain ⟨h1, h2, h3, h5, h7, h8⟩ := hk
  go_enter Tryz.func41, Tryz.ntmps41
  go_wp2
  all_goals
    go_ret
    refine ⟨ret_bool ?_, (Below.refl _ w).alloc (Nat.le_refl _) _⟩
    rw [← HV.out]
    unfold rcleanP
    simp [*] <;> (intro h0; omega)

theorem rclean_any (x : Ev) (w : World) : Calls Tryz.prog 41 #[x.v] w fun e w' => e = .returned (.bool (rcleanP x)) ∧ Below w.heap.size w w' := by
  by_cases h1 : x.k = 1
  · exact rclean_1 x w h1
  by_cases h2 : x.k = 2
  · exact rclean_2 x w h2
  by_cases h3 : x.k = 3
  · exact rclean_3 x w h3
  by_cases h5 : x.k = 5
  · exact rclean_5 x w h5
  by_cases h7 : x.k = 7
  · exact rclean_7 x w h7
  by_cases h8 : x.k = 8
  · exact rclean_8 x w h8
  exact rclean_oth x w ⟨h1, h2, h3, h5, h7, h8⟩
end Go.Proofs.YteeanpfhngoobaaGreat
