/- The document's right. -/
import Derived.Test.YteeanpfhngoobaaGreatZEvs
set_option linter.unusedVariables false
set_option linter.unusedSimpArgs false
namespace Go.Proofs.YteeanpfhngoobaaGreat
open Go.RowKit Go.Shelf

set_option maxRecDepth 100000 in
set_option maxHeartbeats 2000000 in
theorem rclean_1 (x : Ev) (w : World) (hk : x.k = 1) : Calls Tryz.prog 41 #[x.v] w fun e w' => e = .returned (.bool (rcleanP x)) ∧ Below w.heap.size w w' := by
  obtain ⟨k, tx, tg, an, st, fl⟩ := x
  obtain ⟨V, hV⟩ : ∃ V, rcleanP ⟨k, tx, tg, an, st, fl⟩ = V := ⟨_, rfl⟩
  rw [hV]
  dsimp only [Ev.v] at hk ⊢
  have HV : Hid (rcleanP ⟨k, tx, tg, an, st, fl⟩ = V) := hV
  clear hV
  subst hk
  go_enter Tryz.func41, Tryz.ntmps41
  go_wp2
  all_goals
    go_ret
    refine ⟨ret_bool ?_, (Below.refl _ w).alloc (Nat.le_refl _) _⟩
    rw [← HV.out]
    unfold rcleanP
    simp [*] <;> (intro h0; omega)

set_option maxRecDepth 100000 in
set_option maxHeartbeats 2000000 in
theorem rclean_2 (x : Ev) (w : World) (hk : x.k = 2) : Calls Tryz.prog 41 #[x.v] w fun e w' => e = .returned (.bool (rcleanP x)) ∧ Below w.heap.size w w' := by
  obtain ⟨k, tx, tg, an, st, fl⟩ := x
  obtain ⟨V, hV⟩ : ∃ V, rcleanP ⟨k, tx, tg, an, st, fl⟩ = V := ⟨_, rfl⟩
  rw [hV]
  dsimp only [Ev.v] at hk ⊢
  have HV : Hid (rcleanP ⟨k, tx, tg, an, st, fl⟩ = V) := hV
  clear hV
  subst hk
  go_enter Tryz.func41, Tryz.ntmps41
  go_wp2
  all_goals
    go_ret
    refine ⟨ret_bool ?_, (Below.refl _ w).alloc (Nat.le_refl _) _⟩
    rw [← HV.out]
    unfold rcleanP
    simp [*] <;> (intro h0; omega)

set_option maxRecDepth 100000 in
set_option maxHeartbeats 2000000 in
theorem rclean_3 (x : Ev) (w : World) (hk : x.k = 3) : Calls Tryz.prog 41 #[x.v] w fun e w' => e = .returned (.bool (rcleanP x)) ∧ Below w.heap.size w w' := by
  obtain ⟨k, tx, tg, an, st, fl⟩ := x
  obtain ⟨V, hV⟩ : ∃ V, rcleanP ⟨k, tx, tg, an, st, fl⟩ = V := ⟨_, rfl⟩
  rw [hV]
  dsimp only [Ev.v] at hk ⊢
  have HV : Hid (rcleanP ⟨k, tx, tg, an, st, fl⟩ = V) := hV
  clear hV
  subst hk
  go_enter Tryz.func41, Tryz.ntmps41
  go_wp2
  all_goals
    go_ret
    refine ⟨ret_bool ?_, (Below.refl _ w).alloc (Nat.le_refl _) _⟩
    rw [← HV.out]
    unfold rcleanP
    simp [*] <;> (intro h0; omega)

set_option maxRecDepth 100000 in
set_option maxHeartbeats 2000000 in
theorem rclean_5 (x : Ev) (w : World) (hk : x.k = 5) : Calls Tryz.prog 41 #[x.v] w fun e w' => e = .returned (.bool (rcleanP x)) ∧ Below w.heap.size w w' := by
  obtain ⟨k, tx, tg, an, st, fl⟩ := x
  obtain ⟨V, hV⟩ : ∃ V, rcleanP ⟨k, tx, tg, an, st, fl⟩ = V := ⟨_, rfl⟩
  rw [hV]
  dsimp only [Ev.v] at hk ⊢
  have HV : Hid (rcleanP ⟨k, tx, tg, an, st, fl⟩ = V) := hV
  clear hV
  subst hk
  go_enter Tryz.func41, Tryz.ntmps41
  go_wp2
  all_goals
    go_ret
    refine ⟨ret_bool ?_, (Below.refl _ w).alloc (Nat.le_refl _) _⟩
    rw [← HV.out]
    unfold rcleanP
    simp [*] <;> (intro h0; omega)
end Go.Proofs.YteeanpfhngoobaaGreat
