/- FoldBlocks' walk. -/
import Derived.Test.YtjidbgdblgchlaaRefD
import Derived.Test.YtjidbgdblgchlaaFlowLaw
set_option linter.unusedVariables false
set_option linter.unusedSimpArgs false
namespace Go.Proofs.Ytjidbgdblgchlaa
open Go.RowKit Go.Shelf

theorem wholeT_small (P : List Int → Bool) {R : List Row} (h : bigB R = false) (c : Int) : (wholeT P R c).length ≤ 100000 := by
  obtain ⟨h1, h2⟩ := big_small h
  have h3 := joinT_len (sepW P (tAt R)) (tAt R) 200 R.length h2 (fun b i hb hi => sepW_len P _ _ b i hb hi) (told (tellW R) R.length) (fun i hi => by
    unfold told at hi
    have := List.mem_range.1 (List.mem_filter.1 hi).1
    omega)
  have h4 := told_len (tellW R) R.length
  have h5 : (told (tellW R) R.length).length * (200 + R.length + 1) ≤ 60 * 261 := Nat.mul_le_mul (by omega) (by omega)
  have h6 := wJ_lt P R R.length
  unfold wJ at h6
  have h7 := endN_le (decide (0 ≤ (joinT (sepW P (tAt R)) (tAt R) (told (tellW R) R.length)).2)) ((R.length : Int) - (joinT (sepW P (tAt R)) (tAt R) (told (tellW R) R.length)).2 - 1) c (by omega)
  unfold wholeT reps
  rw [List.length_append, List.length_replicate]
  omega

set_option maxRecDepth 100000 in
set_option maxHeartbeats 2000000 in
theorem blocks_law (p : Option Addr) (R : List Row) (cap : Nat) (ch : Int) (w : World) (hl : R.length ≤ maxLen) (hM : Mt w p R) :
    Calls Try.prog 4 #[.slice p R.length cap, .int .i64 ch] w fun e w' => e = .returned (.bool true) ∧ Below w.heap.size w w' := by
  have BG := fun W h => big_any p R cap W hl h
  cases hb : bigB R with
  | true =>
    rw [hb] at BG
    go_enter Try.func4, Try.ntmps4
    go_wp2_with (first | (go_at_call 9; refine (alive_any _).mono ?_; rintro e W ⟨rfl, hB⟩) | (go_at_call 10; refine (BG _ (hM.on hB)).mono ?_; rintro e W ⟨rfl, rfl⟩))
    go_ret
    exact ⟨rfl, hB⟩
  | false =>
    rw [hb] at BG
    have hS := big_sized hb
    have hlnA := wholeT_small alwaysP hb ch
    have hlnS := wholeT_small spacedP hb ch
    have FL := fun W h => Literal_any p R cap ch W hS h
    have RF := fun W h => refLiteral_any p R cap ch W hS h
    have SI := fun p q c d W => same_ints p q (wholeT alwaysP R ch) c d W (by omega)
    have FB := fun W h => Block_any p R cap ch W hS h
    have RB := fun W h => refBlock_any p R cap ch W hS h
    have SB := fun p q c d W => same_ints p q (wholeT spacedP R ch) c d W (by omega)
    generalize wholeT alwaysP R ch = T at FL RF SI hlnA
    generalize wholeT spacedP R ch = T' at FB RB SB hlnS
    clear hb hS
    go_enter Try.func4, Try.ntmps4
    go_wp2_with (first | (go_at_call 9; refine (alive_any _).mono ?_; rintro e W ⟨rfl, hB⟩) | (go_at_call 10; refine (BG _ (hM.on hB)).mono ?_; rintro e W ⟨rfl, rfl⟩) | (go_at_call 14; refine (FL _ (hM.on hB)).mono ?_; rintro e W2 ⟨v2, rfl, ho2, hb2⟩; obtain ⟨q2, c2, rfl, hI2⟩ := ho2.read; have hB2 := hB.trans (hb2.mono hB.size); clear ho2) | (go_at_call 15; refine (RF _ (hM.on hB2)).mono ?_; rintro e W3 ⟨v3, rfl, ho3, hb3⟩; obtain ⟨q3, c3, rfl, hI3⟩ := ho3.read; have hB3 := hB2.trans (hb3.mono hB2.size); clear ho3) | (go_at_call 11; refine (SI _ _ _ _ _ (hI2.on hb3) hI3).mono ?_; clear SI hI2 hI3; rintro e W4 ⟨rfl, m, rfl⟩; have hB4 := belowN hB3 m) | (go_at_call 16; refine (FB _ (hM.on hB4)).mono ?_; rintro e W5 ⟨v5, rfl, ho5, hb5⟩; obtain ⟨q5, c5, rfl, hI5⟩ := ho5.read; have hB5 := hB4.trans (hb5.mono hB4.size); clear ho5) | (go_at_call 17; refine (RB _ (hM.on hB5)).mono ?_; rintro e W6 ⟨v6, rfl, ho6, hb6⟩; obtain ⟨q6, c6, rfl, hI6⟩ := ho6.read; have hB6 := hB5.trans (hb6.mono hB5.size); clear ho6) | (go_at_call 11; refine (SB _ _ _ _ _ (hI5.on hb6) hI6).mono ?_; rintro e W7 ⟨rfl, m2, rfl⟩))
    go_ret
    exact ⟨rfl, belowN hB6 _⟩
end Go.Proofs.Ytjidbgdblgchlaa
