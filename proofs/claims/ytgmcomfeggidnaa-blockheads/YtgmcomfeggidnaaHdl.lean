/- BlockHeads, as it runs. -/
import Derived.Test.YtgmcomfeggidnaaRhd
import Derived.Test.YtgmcomfeggidnaaAlv
set_option linter.unusedVariables false
set_option linter.unusedSimpArgs false
namespace Go.Proofs.Ytgmcomfeggidnaa
open Go.RowKit Go.Shelf

set_option maxRecDepth 100000 in
set_option maxHeartbeats 1000000 in
theorem heads_law (p : Option Addr) (l : List Int) (cap : Nat) (hc : l.length ≤ cap) (hm : cap ≤ maxLen) (w : World) (h : Is w p l) :
    Calls Try.prog 3 #[.slice p l.length cap] w fun e w' => e = .returned (.bool true) ∧ Below w.heap.size w w' := by
  have hmm : (cap : Int) ≤ 9223372036854775807 := by unfold maxLen at hm; omega
  by_cases hl : l.length ≤ 100
  · have hl' : ¬ (100 : Int) < l.length := by omega
    have HD := fun W hW => Head_any p l cap W (by omega) hc hm hW
    have RH := fun W hW => rHead_any p l cap W (by omega) hc hm hW
    cases hp : headP l with
    | none =>
      rw [hp] at HD RH
      unfold headV at HD RH
      dsimp only at HD RH
      go_enter Try.func3, Try.ntmps3
      go_wp2_with (first | (go_at_call 7; refine (alive_any _).mono ?_; rintro e w1 ⟨rfl, hb1⟩; have h1 := h.on hb1) | (go_at_call 8; refine (HD _ h1).mono ?_; rintro e w2 ⟨rfl, hb2⟩; have h2 := (h1.on hb2).alloc (.cells #[.bool false, .int .i64 0, .int .i64 0] 25); have K2 := Hb.new w2 25 false 0 0) | (go_at_call 9; refine (RH _ h2).mono ?_; rintro e w3 ⟨rfl, hb3⟩; obtain ⟨a0, a1, a2⟩ := (K2.on hb3).cells; have hlt := (K2.on hb3).lt) | (go_at_call 10; refine (num_any _ _).mono ?_; rintro e w3 ⟨rfl, rfl⟩))
      go_ret
      exact ⟨rfl, ((hb1.trans (hb2.mono hb1.size)).trans (((Below.refl _ _).alloc (Nat.le_refl _) _).mono (Nat.le_trans hb1.size hb2.size))).trans ((hb3.mono (by have := hb1.size; have := hb2.size; simp; omega)).trans ((Below.refl _ _).alloc (by have := hb1.size; have := hb2.size; have := hb3.size; simp at this; omega) _))⟩
    | some y =>
      obtain ⟨f, ch, i⟩ := y
      rw [hp] at HD RH
      unfold headV at HD RH
      dsimp only at HD RH
      clear hp
      go_enter Try.func3, Try.ntmps3
      go_wp2_with (first | (go_at_call 7; refine (alive_any _).mono ?_; rintro e w1 ⟨rfl, hb1⟩; have h1 := h.on hb1) | (go_at_call 8; refine (HD _ h1).mono ?_; rintro e w2 ⟨rfl, hb2⟩; have h2 := (h1.on hb2).alloc (.cells #[.bool f, .int .i64 ch, .int .i64 i] 25); have K2 := Hb.new w2 25 f ch i) | (go_at_call 9; refine (RH _ h2).mono ?_; rintro e w3 ⟨rfl, hb3⟩; obtain ⟨a0, a1, a2⟩ := (K2.on hb3).cells; have hlt := (K2.on hb3).lt) | (go_at_call 10; refine (num_any _ _).mono ?_; rintro e w3 ⟨rfl, rfl⟩))
      go_ret
      refine ⟨ret_bool (by simp), ((hb1.trans (hb2.mono hb1.size)).trans (((Below.refl _ _).alloc (Nat.le_refl _) _).mono (Nat.le_trans hb1.size hb2.size))).trans ((hb3.mono (by have := hb1.size; have := hb2.size; simp; omega)).trans ((Below.refl _ _).alloc (by have := hb1.size; have := hb2.size; have := hb3.size; simp at this; omega) _))⟩
  · have hl' : (100 : Int) < l.length := by omega
    go_enter Try.func3, Try.ntmps3
    go_wp2_with (first | (go_at_call 7; refine (alive_any _).mono ?_; rintro e w1 ⟨rfl, hb1⟩))
    go_ret
    exact ⟨rfl, hb1⟩
end Go.Proofs.Ytgmcomfeggidnaa
