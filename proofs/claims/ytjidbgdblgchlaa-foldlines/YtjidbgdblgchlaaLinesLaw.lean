/- FoldLines' walk. -/
import Derived.Test.YtjidbgdblgchlaaBlockLaw
set_option linter.unusedVariables false
set_option linter.unusedSimpArgs false
namespace Go.Proofs.Ytjidbgdblgchlaa
open Go.RowKit Go.Shelf

/-- Each line, with an end behind it. -/
def linS (R : List Row) : Nat → List Int
  | 0 => []
  | k + 1 => linS R k ++ tAt R k ++ [10]
theorem linS_lit (R : List Row) : ∀ k, linS R k = litS R k ++ (if 0 < k then [10] else [])
  | 0 => rfl
  | k + 1 => by rw [linS, linS_lit R k, litS, if_pos (show 0 < k + 1 by omega)]
theorem linS_tail (R : List Row) : ∀ k, linS R k = linS R (wN R k) ++ List.replicate (k - wN R k) 10
  | 0 => rfl
  | k + 1 => by
    unfold wN
    split
    · rename_i h
      have hle := wN_le R k
      rw [linS, List.eq_nil_of_length_eq_zero h, List.append_nil]
      conv => lhs; rw [linS_tail R k]
      rw [List.append_assoc, ← List.replicate_succ', show k + 1 - wN R k = (k - wN R k) + 1 by omega]
    · simp
theorem whole_lines (R : List Row) : wholeT alwaysP R 2 = linS R R.length := by
  rw [whole_chomp, linS_tail, linS_lit, litS_wJ, wJ_last]
  have hle := wN_le R R.length
  generalize wN R R.length = n at hle
  rw [reps_neg _ _ (by split <;> omega), List.append_nil, List.append_assoc]
  congr 1
  unfold chN
  rw [if_pos rfl]
  by_cases h : 0 < n
  · rw [if_pos h, if_pos h, List.replicate_succ]; rfl
  · rw [if_neg h, if_neg h]; rfl
theorem linS_small {R : List Row} (h : bigB R = false) : ∀ k, (linS R k).length ≤ k * 201
  | 0 => Nat.le_refl _
  | k + 1 => by
    have h1 := linS_small h k
    have h2 := (big_small h).2 k
    rw [linS, List.length_append, List.length_append, List.length_singleton]
    omega

set_option maxRecDepth 100000 in
set_option maxHeartbeats 2000000 in
theorem lines_law (p : Option Addr) (R : List Row) (cap : Nat) (w : World) (hl : R.length ≤ maxLen) (hM : Mt w p R) :
    Calls Try.prog 6 #[.slice p R.length cap] w fun e w' => e = .returned (.bool true) ∧ Below w.heap.size w w' := by
  have BG := fun W h => big_any p R cap W hl h
  cases hb : bigB R with
  | true =>
    rw [hb] at BG
    go_enter Try.func6, Try.ntmps6
    go_wp2_with (first | (go_at_call 9; refine (alive_any _).mono ?_; rintro e W ⟨rfl, hB⟩) | (go_at_call 10; refine (BG _ (hM.on hB)).mono ?_; rintro e W ⟨rfl, rfl⟩))
    go_ret
    exact ⟨rfl, hB⟩
  | false =>
    rw [hb] at BG
    have hS := big_sized hb
    obtain ⟨hR60, hT200⟩ := big_small hb
    have hsm := linS_small hb
    have FL := fun W h => Literal_any p R cap 2 W hS h
    rw [whole_lines] at FL
    have SI := fun p q c d W => same_ints p q (linS R R.length) c d W (by have := hsm R.length; omega)
    clear hb
    go_enter Try.func6, Try.ntmps6
    go_wp2_with (first | (go_at_call 9; refine (alive_any _).mono ?_; rintro e W ⟨rfl, hB⟩) | (go_at_call 10; refine (BG _ (hM.on hB)).mono ?_; rintro e W ⟨rfl, rfl⟩))
    clear BG
    go_loopw [5, 6] (fun v i wr => ∃ (k : Nat), k ≤ R.length ∧ i = .int .i64 k ∧ Owns wr w.heap.size v (linS R k) ∧ Below w.heap.size w wr) (fun _ i _ => R.length - (intOf i).toNat)
    case atStart => exact ⟨0, Nat.zero_le _, rfl, World.ownsRow_nil _ _ 3 1, hB⟩
    case round =>
      obtain ⟨k, hk, rfl, ho, hB1⟩ := hrel
      have hbd := hsm k
      by_cases hlt : k < R.length
      · have hlR : (k : Int) < R.length := by omega
        obtain ⟨b0, o0, rfl, hcell⟩ := hM.at (by omega)
        obtain ⟨r, hr⟩ := row_at (R := R) (i := k) (by omega)
        have hlt0 := World.block_lt_of_cell? w _ (hcell k r hr)
        have c0 := (hB1.cell (p := ⟨b0, o0 + k, none⟩) hlt0).trans (hcell k r hr)
        have hI := (hM.1 k r hr).2.2
        have hrt := hT200 k
        have HL : Hid (linS R (k + 1) = linS R k ++ r.t ++ [10]) := by show _ = _; rw [linS, tAt_at hr]
        rw [tAt_at hr] at hrt
        generalize linS R k = T at ho HL hbd
        obtain ⟨rq, rt, rc⟩ := r
        dsimp only at c0 hI hrt HL
        have hqb := hI.lt
        have HI : Hid (Is wr rq rt) := hI.below hqb hB1
        clear hcell FL SI
        obtain ⟨va, vk, vc, rfl⟩ := ownsRow_form ho
        go_wp2
        go_loop [7] (fun j => ∃ (m : Nat), m ≤ rt.length ∧ j = .int .i64 m) (fun j => rt.length - (intOf j).toNat)
        case atStart => exact ⟨0, Nat.zero_le _, rfl⟩
        case round =>
          obtain ⟨m, hm, rfl⟩ := hrel
          by_cases hml : m < rt.length
          · have hml' : (m : Int) < rt.length := by omega
            obtain ⟨b1, o1, rfl, hc1⟩ := HI.out.at (by omega)
            have d0 := hc1 m hml
            clear hc1
            by_cases hx : iAt rt m = 10
            · rw [hx] at d0
              go_wp2
              go_ret
              exact ⟨rfl, hB1⟩
            · generalize iAt rt m = x at d0 hx
              have hxb : (x == 10) = false := by simpa using hx
              go_wp2
              go_round
              case rel => exact ⟨m + 1, by omega, by go_num⟩
              case measure => simp [intOf]; omega
          · obtain rfl : m = rt.length := by omega
            obtain ⟨v2, w2, hrun2, ho2, hg2⟩ := pushL rc ho hB1.size (by omega) HI.out
            have hb2 := owns_below ho hg2 (Nat.le_refl _) hB1.size
            have hB2 := hB1.trans hb2
            obtain ⟨v3, w3, hrun3, ho3, hb3⟩ := push1w ho2 hB2.size (by simp; omega) 10
            obtain ⟨va2, vk2, vc2, rfl⟩ := ownsRow_form ho2
            obtain ⟨va3, vk3, vc3, rfl⟩ := ownsRow_form ho3
            go_wp2_with (first | (at_builtin; refine wpList_append_run (u := .slice va vk vc) (y := .slice rq rt.length rc) rfl _ _ 26 rfl rfl rfl hrun2 ?_; clear hrun2) | (at_builtin; refine wpList_append_run (u := .slice va2 vk2 vc2) (y := .slice (some ⟨w2.heap.size, 0, none⟩) 1 1) rfl _ _ 26 rfl rfl rfl hrun3 ?_; clear hrun3))
            go_roundw
            case rel => exact ⟨k + 1, by omega, by go_num, (by rw [HL.out]; exact ho3), hB2.trans hb3⟩
            case measure => simp [intOf]; omega
      · obtain rfl : k = R.length := by omega
        obtain ⟨q1, c1, rfl, hI1⟩ := ho.read
        generalize linS R R.length = T at FL SI hI1
        clear ho hsm
        go_wp2_with (first | (go_at_call 14; refine (FL _ (hM.on hB1)).mono ?_; rintro e W2 ⟨v2, rfl, ho2, hb2⟩; obtain ⟨q2, c2, rfl, hI2⟩ := ho2.read; have hB2 := hB1.trans (hb2.mono hB1.size); clear ho2) | (go_at_call 11; refine (SI _ _ _ _ _ hI2 (hI1.on hb2)).mono ?_; rintro e W4 ⟨rfl, m, rfl⟩))
        go_ret
        exact ⟨rfl, belowN hB2 _⟩
end Go.Proofs.Ytjidbgdblgchlaa
