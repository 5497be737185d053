/- The document's own stop, PlainEnd, PlainKey and PlainBegins. -/
import Derived.Test.YtdpeiggppemmcaaSaf
set_option linter.unusedVariables false
set_option linter.unusedSimpArgs false
namespace Go.Proofs.Ytdpeiggppemmcaa
open Go.RowKit

theorem safe_bh (t : List Int) (i : Nat) (fl : Bool) : (decide (i + 1 < t.length) && safeP (iAt t (i + 1)) fl) = safeP (bhP t i) fl := by
  unfold bhP
  split
  · rename_i h; rw [decide_eq_true h]; rfl
  · rename_i h; rw [decide_eq_false h, safe_ten]; rfl
theorem flow58 : flowP 58 = false := by decide
theorem flow35 : flowP 35 = false := by decide

set_option maxRecDepth 100000 in
set_option maxHeartbeats 2000000 in
theorem rstop_any (q : Option Addr) (t : List Int) (c : Nat) (fl : Bool) (w : World) (hn : t.length ≤ 1099511627776) (hI : Is w q t) :
    Calls Try.prog 22 #[.slice q t.length c, .bool fl] w fun e w' => e = .returned (.int .i64 (stopP t fl : Nat)) ∧ w' = w := by
  obtain ⟨S, hS⟩ : ∃ S, stopP t fl = S := ⟨_, rfl⟩
  rw [hS]
  have HS : Hid (stopP t fl = S) := hS
  have hn2 : (t.length : Int) ≤ 1099511627776 := by omega
  clear hS
  go_enter Try.func22, Try.ntmps22
  go_wp2
  go_loop [5] (fun iv => ∃ (k : Nat), k ≤ t.length ∧ iv = .int .i64 k ∧ Hid (∀ j, j < k → enAt t fl j = false)) (fun iv => t.length - (intOf iv).toNat)
  case atStart => exact ⟨0, by omega, rfl, fun j hj => by omega⟩
  case round =>
    obtain ⟨k, hk, rfl, HE⟩ := hrel
    by_cases hlt : k < t.length
    · have hli : (k : Int) < t.length := by omega
      have SA := safeAt_any q t c (k + 1) fl
      rw [safe_bh] at SA
      have SA := fun w (h : Is w q t) => SA w hn h
      have SA := SA w hI
      obtain ⟨b, o, rfl, hu⟩ := hI.at (by omega)
      have c0 := hu k hlt
      have HN : Hid (enAt t fl k = false → ∀ j, j < k + 1 → enAt t fl j = false) := fun hv j hj => by
        by_cases e : j = k
        · subst e; exact hv
        · exact HE.out j (by omega)
      have HY : Hid (enAt t fl k = true → k = S) := fun hv => by rw [← HS.out]; exact (stop_eq (by omega) HE.out (fun _ => hv)).symm
      have ek : ((k + 1 : Nat) : Int) = (k : Int) + 1 := by omega
      have eC : enAt t fl k = enP (ahP t k) (iAt t k) (bhP t k) fl := rfl
      rw [ek] at SA
      by_cases h1 : iAt t k = 58
      · rw [h1] at c0 eC
        have FL := rflow_any 58
        rw [flow58] at FL
        unfold enP at eC
        rw [if_pos rfl] at eC
        cases hz : safeP (bhP t k) fl with
        | true =>
          rw [hz] at SA eC
          have HN' := HN.out eC
          have HN'' : Hid _ := HN'
          clear hu eC HN HY HN' HE hz hI h1
          cases fl <;>
          · go_wp2_with (first | (go_at_call 20; refine SA.mono ?_; rintro e w ⟨rfl, rfl⟩) | (go_at_call 30; refine (FL _).mono ?_; rintro e w ⟨rfl, rfl⟩))
            go_round
            case rel => exact ⟨k + 1, by omega, by go_num, HN''⟩
            case measure => simp [intOf]; omega
        | false =>
          rw [hz] at SA eC
          have hk := HY.out eC
          subst hk
          clear hu eC HN HY HE hz hI h1
          go_wp2_with (first | (go_at_call 20; refine SA.mono ?_; rintro e w ⟨rfl, rfl⟩) | (go_at_call 30; refine (FL _).mono ?_; rintro e w ⟨rfl, rfl⟩))
          go_ret
          exact ⟨rfl, rfl⟩
      · have h1' : (iAt t k == 58) = false := by simpa using h1
        by_cases h2 : iAt t k = 35
        · rw [h2] at c0 eC
          have FL := rflow_any 35
          rw [flow35] at FL
          unfold enP at eC
          rw [if_neg (by decide), if_pos rfl] at eC
          by_cases h3 : 0 < k
          · have h3' : (0 : Int) < k := by omega
            have e1 : (k : Int) - 1 = ((k - 1 : Nat) : Int) := by omega
            have c1 := hu (k - 1) (by omega)
            unfold ahP at eC
            rw [if_pos h3] at eC
            have BL := rblank_any (iAt t (k - 1))
            cases hz : blankP (iAt t (k - 1)) with
            | true =>
              rw [hz] at BL eC
              have hk := HY.out eC
              subst hk
              generalize iAt t (k - 1) = y at c1 BL
              clear hu eC HN HY HE hz hI h1 h2 SA h1'
              go_wp2_with (first | (go_at_call 23; refine (BL _).mono ?_; rintro e w ⟨rfl, rfl⟩) | (go_at_call 30; refine (FL _).mono ?_; rintro e w ⟨rfl, rfl⟩))
              go_ret
              exact ⟨rfl, rfl⟩
            | false =>
              rw [hz] at BL eC
              have HN'' : Hid _ := HN.out eC
              generalize iAt t (k - 1) = y at c1 BL
              clear hu eC HN HY HE hz hI h1 h2 SA h1'
              cases fl <;>
              · go_wp2_with (first | (go_at_call 23; refine (BL _).mono ?_; rintro e w ⟨rfl, rfl⟩) | (go_at_call 30; refine (FL _).mono ?_; rintro e w ⟨rfl, rfl⟩))
                go_round
                case rel => exact ⟨k + 1, by omega, by go_num, HN''⟩
                case measure => simp [intOf]; omega
          · have h3' : ¬ (0 : Int) < k := by omega
            unfold ahP at eC
            rw [if_neg h3] at eC
            have HN'' : Hid _ := HN.out (eC.trans (by decide))
            clear hu eC HN HY HE hI h1 h2 SA h1'
            cases fl <;>
            · go_wp2_with (first | (go_at_call 30; refine (FL _).mono ?_; rintro e w ⟨rfl, rfl⟩))
              go_round
              case rel => exact ⟨k + 1, by omega, by go_num, HN''⟩
              case measure => simp [intOf]; omega
        · have h2' : (iAt t k == 35) = false := by simpa using h2
          have FL := rflow_any (iAt t k)
          unfold enP at eC
          rw [if_neg h1, if_neg h2] at eC
          cases hz : flowP (iAt t k) with
          | true =>
            rw [hz] at FL eC
            generalize iAt t k = x at c0 FL h1' h2'
            cases fl with
            | true =>
              have hk := HY.out eC
              subst hk
              clear hu eC HN HY HE hz hI h1 h2 SA
              go_wp2_with (first | (go_at_call 30; refine (FL _).mono ?_; rintro e w ⟨rfl, rfl⟩))
              go_ret
              exact ⟨rfl, rfl⟩
            | false =>
              have HN'' : Hid _ := HN.out eC
              clear hu eC HN HY HE hz hI h1 h2 SA
              go_wp2_with (first | (go_at_call 30; refine (FL _).mono ?_; rintro e w ⟨rfl, rfl⟩))
              go_round
              case rel => exact ⟨k + 1, by omega, by go_num, HN''⟩
              case measure => simp [intOf]; omega
          | false =>
            rw [hz] at FL eC
            have HN'' : Hid _ := HN.out (eC.trans (by simp))
            generalize iAt t k = x at c0 FL h1' h2'
            clear hu eC HN HY HE hz hI h1 h2 SA
            cases fl <;>
            · go_wp2_with (first | (go_at_call 30; refine (FL _).mono ?_; rintro e w ⟨rfl, rfl⟩))
              go_round
              case rel => exact ⟨k + 1, by omega, by go_num, HN''⟩
              case measure => simp [intOf]; omega
    · have hge : ¬ (k : Int) < t.length := by omega
      have hkS : t.length = S := by
        rw [← HS.out]
        obtain rfl : k = t.length := by omega
        exact (stop_eq (Nat.le_refl _) HE.out (fun h => by omega)).symm
      subst hkS
      go_wp2
      go_ret
      exact ⟨rfl, rfl⟩
end Go.Proofs.Ytdpeiggppemmcaa
