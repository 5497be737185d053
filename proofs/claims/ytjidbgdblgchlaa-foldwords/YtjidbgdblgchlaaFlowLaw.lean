/- FoldFlows' walk. -/
import Derived.Test.YtjidbgdblgchlaaRefB
import Derived.Test.YtjidbgdblgchlaaBase
set_option linter.unusedVariables false
set_option linter.unusedSimpArgs false
namespace Go.Proofs.Ytjidbgdblgchlaa
open Go.RowKit Go.Shelf

theorem belowN {n₀ : Nat} {A B : World} (h : Below n₀ A B) (k : Nat) : Below n₀ A (B.drewN k) := ⟨h.os, h.tape, h.output, h.size, h.block⟩
/-- A slice that owns t, as it is read. -/
theorem Owns.read {w : World} {base : Nat} {v : Value} {t : List Int} (h : Owns w base v t) : ∃ q c, v = .slice q t.length c ∧ Is w q t := by
  obtain ⟨q, k, c, rfl⟩ := ownsRow_form h
  obtain ⟨h1, rfl, -, -⟩ := is_of_row h
  exact ⟨q, c, rfl, h1⟩
theorem flS_small {R : List Row} (h : bigB R = false) : ((flowT R).length : Int) ≤ 100000 := by
  obtain ⟨h1, h2⟩ := big_small h
  have h3 := joinT_len sepFl (trimG R) 200 R.length (fun i => Nat.le_trans (trimF_le _ _ _) (h2 i)) (fun b i hb hi => sepFl_len _ b i hb hi) (told (tellF R) R.length) (fun i hi => by
    unfold told at hi
    have := List.mem_range.1 (List.mem_filter.1 hi).1
    omega)
  have h4 := told_len (tellF R) R.length
  have : (told (tellF R) R.length).length * (200 + R.length + 1) ≤ 60 * 261 := Nat.mul_le_mul (by omega) (by omega)
  unfold flowT
  omega

set_option maxRecDepth 100000 in
set_option maxHeartbeats 2000000 in
theorem flows_law (p : Option Addr) (R : List Row) (cap : Nat) (w : World) (hl : R.length ≤ maxLen) (hM : Mt w p R) :
    Calls Try.prog 3 #[.slice p R.length cap] w fun e w' => e = .returned (.bool true) ∧ Below w.heap.size w w' := by
  have BG := fun W h => big_any p R cap W hl h
  cases hb : bigB R with
  | true =>
    rw [hb] at BG
    go_enter Try.func3, Try.ntmps3
    go_wp2_with (first | (go_at_call 9; refine (alive_any _).mono ?_; rintro e W ⟨rfl, hB⟩) | (go_at_call 10; refine (BG _ (hM.on hB)).mono ?_; rintro e W ⟨rfl, rfl⟩))
    go_ret
    exact ⟨rfl, hB⟩
  | false =>
    rw [hb] at BG
    have hS := big_sized hb
    have hln := flS_small hb
    have FL := fun W h => Flow_any p R cap W hS h
    have RF := fun W h => refFlow_any p R cap W hS h
    have SI := fun p q c d W => same_ints p q (flowT R) c d W (by omega)
    generalize flowT R = T at FL RF SI hln
    clear hb hS
    go_enter Try.func3, Try.ntmps3
    go_wp2_with (first | (go_at_call 9; refine (alive_any _).mono ?_; rintro e W ⟨rfl, hB⟩) | (go_at_call 10; refine (BG _ (hM.on hB)).mono ?_; rintro e W ⟨rfl, rfl⟩) | (go_at_call 12; refine (FL _ (hM.on hB)).mono ?_; rintro e W2 ⟨v2, rfl, ho2, hb2⟩; obtain ⟨q2, c2, rfl, hI2⟩ := ho2.read; have hB2 := hB.trans (hb2.mono hB.size); clear ho2) | (go_at_call 13; refine (RF _ (hM.on hB2)).mono ?_; rintro e W3 ⟨v3, rfl, ho3, hb3⟩; obtain ⟨q3, c3, rfl, hI3⟩ := ho3.read; have hB3 := hB2.trans (hb3.mono hB2.size); clear ho3) | (go_at_call 11; refine (SI _ _ _ _ _ (hI2.on hb3) hI3).mono ?_; rintro e W4 ⟨rfl, m, rfl⟩))
    go_ret
    exact ⟨rfl, belowN hB3 _⟩
end Go.Proofs.Ytjidbgdblgchlaa
