/- End and Key, for every line. -/
import Derived.Test.YtdpeiggppemmcaaStp
set_option linter.unusedVariables false
set_option linter.unusedSimpArgs false
namespace Go.Proofs.Ytdpeiggppemmcaa
open Go.RowKit

set_option maxRecDepth 100000 in
set_option maxHeartbeats 2000000 in
theorem End_any (q : Option Addr) (t : List Int) (c : Nat) (fl : Bool) (w : World) (hn : t.length ≤ 1099511627776) (hI : Is w q t) :
    Calls Try.prog 9 #[.slice q t.length c, .bool fl] w fun e w' => e = .returned (.int .i64 (endP t fl : Nat)) ∧ Below w.heap.size w w' := by
  have ST := stop_any q t c fl w hn hI
  have hS := stop_le t fl
  have HS : Hid (trimP t (stopP t fl) = endP t fl) := rfl
  generalize endP t fl = E at HS
  generalize stopP t fl = S at ST hS HS
  have hn2 : (t.length : Int) ≤ 1099511627776 := by omega
  go_enter Try.func9, Try.ntmps9
  go_wp2_with (first | (go_at_call 14; refine ST.mono ?_; rintro e W ⟨rfl, hB⟩))
  have hIW := hI.on hB
  clear ST
  go_loop [5] (fun iv => ∃ (k : Nat), k ≤ S ∧ iv = .int .i64 k ∧ Hid (trimP t k = E)) (fun iv => (intOf iv).toNat)
  case atStart => exact ⟨S, Nat.le_refl _, rfl, HS⟩
  case round =>
    obtain ⟨k, hk, rfl, HE⟩ := hrel
    cases k with
    | zero =>
      have hE : E = 0 := HE.out.symm
      subst hE
      have h0 : ((0 : Nat) : Int) = 0 := rfl
      rw [h0]
      go_wp2
      go_ret
      exact ⟨rfl, hB⟩
    | succ k =>
      have h0 : (0 : Int) < ((k + 1 : Nat) : Int) := by omega
      have e1 : ((k + 1 : Nat) : Int) - 1 = (k : Int) := by omega
      obtain ⟨b, o, rfl, hu⟩ := hIW.at (by omega)
      have c0 := hu k (by omega)
      have BL := blank_any (iAt t k)
      have hT := HE.out
      have hkl : ((k + 1 : Nat) : Int) ≤ t.length := by omega
      have hkl' : (k : Int) < t.length := by omega
      rw [trimP] at hT
      cases hz : blankP (iAt t k) with
      | true =>
        rw [hz] at BL hT
        rw [if_pos rfl] at hT
        have HT : Hid _ := hT
        generalize iAt t k = x at c0 BL
        clear hu hIW hI hT HE hz HS
        go_wp2_with (first | (go_at_call 15; refine (BL _).mono ?_; rintro e w' ⟨rfl, rfl⟩))
        go_round
        case rel => exact ⟨k, by omega, by go_num, HT⟩
        case measure => simp [intOf]
      | false =>
        rw [hz] at BL hT
        rw [if_neg (by simp)] at hT
        subst hT
        generalize iAt t k = x at c0 BL
        clear hu hIW hI HE hz HS
        go_wp2_with (first | (go_at_call 15; refine (BL _).mono ?_; rintro e w' ⟨rfl, rfl⟩))
        go_ret
        exact ⟨rfl, hB⟩

set_option maxRecDepth 100000 in
set_option maxHeartbeats 2000000 in
theorem Key_any (q : Option Addr) (t : List Int) (c : Nat) (fl : Bool) (w : World) (hn : t.length ≤ 1099511627776) (hI : Is w q t) :
    Calls Try.prog 8 #[.slice q t.length c, .bool fl] w fun e w' => e = .returned (.int .i64 (keyP t fl)) ∧ Below w.heap.size w w' := by
  have ST := stop_any q t c fl w hn hI
  have hS := stop_le t fl
  unfold keyP
  generalize stopP t fl = S at ST hS
  have hn2 : (t.length : Int) ≤ 1099511627776 := by omega
  by_cases h1 : S < t.length
  · have h1' : (S : Int) < t.length := by omega
    obtain ⟨b, o, rfl, hu⟩ := hI.at (by omega)
    have HC : Hid (∀ W, Below w.heap.size w W → W.cell? ⟨b, o + S, none⟩ = some (.int .i64 (iAt t S))) := fun W hW => (hW.cell (p := ⟨b, o + S, none⟩) (World.block_lt_of_cell? w _ (hu S h1))).trans (hu S h1)
    clear hu hI
    by_cases h2 : iAt t S = 58
    · rw [if_pos ⟨h1, h2⟩]
      rw [h2] at HC
      go_enter Try.func8, Try.ntmps8
      go_wp2_with (first | (go_at_call 14; refine ST.mono ?_; rintro e W ⟨rfl, hB⟩; have c0 := HC.out _ hB))
      go_ret
      exact ⟨rfl, hB⟩
    · rw [if_neg (fun h => h2 h.2)]
      have h2' : (iAt t S == 58) = false := by simpa using h2
      generalize iAt t S = x at HC h2'
      clear h2
      go_enter Try.func8, Try.ntmps8
      go_wp2_with (first | (go_at_call 14; refine ST.mono ?_; rintro e W ⟨rfl, hB⟩; have c0 := HC.out _ hB))
      go_ret
      exact ⟨rfl, hB⟩
  · have h1' : ¬ (S : Int) < t.length := by omega
    rw [if_neg (fun h => h1 h.1)]
    go_enter Try.func8, Try.ntmps8
    go_wp2_with (first | (go_at_call 14; refine ST.mono ?_; rintro e W ⟨rfl, hB⟩))
    go_ret
    exact ⟨rfl, hB⟩

end Go.Proofs.Ytdpeiggppemmcaa
