/- PlainEnds', PlainFlow's and PlainAgain's walks. -/
import Derived.Test.YtdpeiggppemmcaaBeg
import Derived.Test.YtdpeiggppemmcaaBase
set_option linter.unusedVariables false
set_option linter.unusedSimpArgs false
namespace Go.Proofs.Ytdpeiggppemmcaa
open Go.RowKit

theorem big_int {n : Nat} (h : n ≤ maxLen) : (n : Int) ≤ 9223372036854775807 := by unfold maxLen at h; omega

set_option maxRecDepth 100000 in
set_option maxHeartbeats 2000000 in
theorem ends_law (q : Option Addr) (t : List Int) (c : Nat) (hc : t.length ≤ c) (hm : c ≤ maxLen) (fl : Bool) (w : World) (hI : Is w q t) :
    Calls Try.prog 3 #[.slice q t.length c, .bool fl] w fun e w' => e = .returned (.bool true) ∧ Below w.heap.size w w' := by
  have AL := alive_any w
  by_cases h3 : t.length ≤ 300
  · have h3' : ¬ (300 : Int) < t.length := by omega
    have hn : t.length ≤ 1099511627776 := by omega
    have h3'' : (t.length : Int) ≤ 300 := by omega
    have KY := fun W (hW : Below w.heap.size w W) => Key_any q t c fl W hn (hI.on hW)
    have EN := fun W (hW : Below w.heap.size w W) => End_any q t c fl W hn (hI.on hW)
    have BG := fun W (hW : Below w.heap.size w W) => Begins_any q t c fl W hn (hI.on hW)
    have RK := fun W (hW : Below w.heap.size w W) => rKey_any q t c fl W hn (hI.on hW)
    have RE := fun W (hW : Below w.heap.size w W) => rEnd_any q t c fl W hn (hI.on hW)
    have RB := fun W (hW : Below w.heap.size w W) => rBegins_any q t c fl W hn (hI.on hW)
    have hE := end_le t fl
    have hE' : (endP t fl : Int) ≤ t.length := by omega
    have hE0 : (0 : Int) ≤ endP t fl := by omega
    have hK := key_is t fl
    generalize begP t fl = B at BG RB
    generalize endP t fl = E at EN RE hE hE' hE0 hK
    generalize keyP t fl = K at KY RK hK
    rcases hK with rfl | ⟨k, rfl, hk1, hk2, hk3⟩
    · have hk : (-1 : Int) < 0 := by omega
      go_enter Try.func3, Try.ntmps3
      go_wp2_with (first | (go_at_call 7; refine AL.mono ?_; rintro e W1 ⟨rfl, hB1⟩) | (go_at_call 8; refine (KY _ hB1).mono ?_; rintro e W2 ⟨rfl, hB2⟩; have hB2 := hB1.trans (hB2.mono hB1.size)) | (go_at_call 9; refine (EN _ hB2).mono ?_; rintro e W3 ⟨rfl, hB3⟩; have hB3 := hB2.trans (hB3.mono hB2.size)) | (go_at_call 10; refine (BG _ hB3).mono ?_; rintro e W4 ⟨rfl, hB4⟩; have hB4 := hB3.trans (hB4.mono hB3.size)) | (go_at_call 11; refine (RB _ hB4).mono ?_; rintro e W4 ⟨rfl, rfl⟩) | (go_at_call 12; refine (RE _ hB4).mono ?_; rintro e W4 ⟨rfl, rfl⟩) | (go_at_call 13; refine (RK _ hB4).mono ?_; rintro e W4 ⟨rfl, rfl⟩))
      go_ret
      exact ⟨rfl, hB4⟩
    · have hk : ¬ (k : Int) < 0 := by omega
      have hk2' : (E : Int) ≤ k := by omega
      have hk1' : (k : Int) < t.length := by omega
      obtain ⟨b, o, rfl, hu⟩ := hI.at (by omega)
      have HC : Hid (∀ W, Below w.heap.size w W → W.cell? ⟨b, o + k, none⟩ = some (.int .i64 58)) := fun W hW => by
        have := hu k hk1
        rw [hk3] at this
        exact (hW.cell (p := ⟨b, o + k, none⟩) (World.block_lt_of_cell? w _ this)).trans this
      clear hu hI
      go_enter Try.func3, Try.ntmps3
      go_wp2_with (first | (go_at_call 7; refine AL.mono ?_; rintro e W1 ⟨rfl, hB1⟩) | (go_at_call 8; refine (KY _ hB1).mono ?_; rintro e W2 ⟨rfl, hB2⟩; have hB2 := hB1.trans (hB2.mono hB1.size)) | (go_at_call 9; refine (EN _ hB2).mono ?_; rintro e W3 ⟨rfl, hB3⟩; have hB3 := hB2.trans (hB3.mono hB2.size)) | (go_at_call 10; refine (BG _ hB3).mono ?_; rintro e W4 ⟨rfl, hB4⟩; have hB4 := hB3.trans (hB4.mono hB3.size); have c0 := HC.out _ hB4) | (go_at_call 11; refine (RB _ hB4).mono ?_; rintro e W4 ⟨rfl, rfl⟩) | (go_at_call 12; refine (RE _ hB4).mono ?_; rintro e W4 ⟨rfl, rfl⟩) | (go_at_call 13; refine (RK _ hB4).mono ?_; rintro e W4 ⟨rfl, rfl⟩))
      go_ret
      exact ⟨rfl, hB4⟩
  · have h3' : (300 : Int) < t.length := by omega
    have hm' := big_int (Nat.le_trans hc hm)
    go_enter Try.func3, Try.ntmps3
    go_wp2_with (first | (go_at_call 7; refine AL.mono ?_; rintro e W ⟨rfl, hB⟩))
    go_ret
    exact ⟨rfl, hB⟩

set_option maxRecDepth 100000 in
set_option maxHeartbeats 2000000 in
theorem flow_law (q : Option Addr) (t : List Int) (c : Nat) (hc : t.length ≤ c) (hm : c ≤ maxLen) (w : World) (hI : Is w q t) :
    Calls Try.prog 4 #[.slice q t.length c] w fun e w' => e = .returned (.bool true) ∧ Below w.heap.size w w' := by
  have AL := alive_any w
  by_cases h3 : t.length ≤ 300
  · have h3' : ¬ (300 : Int) < t.length := by omega
    have hn : t.length ≤ 1099511627776 := by omega
    have h3'' : (t.length : Int) ≤ 300 := by omega
    have EF := fun W (hW : Below w.heap.size w W) => End_any q t c false W hn (hI.on hW)
    have ET := fun W (hW : Below w.heap.size w W) => End_any q t c true W hn (hI.on hW)
    have BF := fun W (hW : Below w.heap.size w W) => Begins_any q t c false W hn (hI.on hW)
    have BT := fun W (hW : Below w.heap.size w W) => Begins_any q t c true W hn (hI.on hW)
    have hE := end_flow t
    have hE' : (endP t true : Int) ≤ endP t false := by omega
    have hB : begP t true = true → begP t false = true := beg_flow
    generalize begP t true = A at BT hB
    generalize begP t false = B at BF hB
    generalize endP t true = E at ET hE'
    generalize endP t false = F at EF hE'
    cases A with
    | false =>
      go_enter Try.func4, Try.ntmps4
      go_wp2_with fail
      refine AL.mono ?_
      rintro e W1 ⟨rfl, hB1⟩
      go_wp2_with fail
      refine (ET _ hB1).mono ?_
      rintro e W2 ⟨rfl, hB2⟩
      have hB2 := hB1.trans (hB2.mono hB1.size)
      go_wp2_with fail
      refine (EF _ hB2).mono ?_
      rintro e W3 ⟨rfl, hB3⟩
      have hB3 := hB2.trans (hB3.mono hB2.size)
      go_wp2_with fail
      refine (BT _ hB3).mono ?_
      rintro e W4 ⟨rfl, hB4⟩
      have hB4 := hB3.trans (hB4.mono hB3.size)
      go_wp2
      go_ret
      exact ⟨rfl, hB4⟩
    | true =>
      obtain rfl : B = true := hB rfl
      go_enter Try.func4, Try.ntmps4
      go_wp2_with fail
      refine AL.mono ?_
      rintro e W1 ⟨rfl, hB1⟩
      go_wp2_with fail
      refine (ET _ hB1).mono ?_
      rintro e W2 ⟨rfl, hB2⟩
      have hB2 := hB1.trans (hB2.mono hB1.size)
      go_wp2_with fail
      refine (EF _ hB2).mono ?_
      rintro e W3 ⟨rfl, hB3⟩
      have hB3 := hB2.trans (hB3.mono hB2.size)
      go_wp2_with fail
      refine (BT _ hB3).mono ?_
      rintro e W4 ⟨rfl, hB4⟩
      have hB4 := hB3.trans (hB4.mono hB3.size)
      go_wp2_with fail
      refine (BF _ hB4).mono ?_
      rintro e W5 ⟨rfl, hB5⟩
      have hB5 := hB4.trans (hB5.mono hB4.size)
      go_wp2
      go_ret
      exact ⟨rfl, hB5⟩
  · have h3' : (300 : Int) < t.length := by omega
    have hm' := big_int (Nat.le_trans hc hm)
    go_enter Try.func4, Try.ntmps4
    go_wp2_with (first | (go_at_call 7; refine AL.mono ?_; rintro e W ⟨rfl, hB⟩))
    go_ret
    exact ⟨rfl, hB⟩

set_option maxRecDepth 100000 in
set_option maxHeartbeats 2000000 in
theorem again_law (q : Option Addr) (t : List Int) (c : Nat) (hc : t.length ≤ c) (hm : c ≤ maxLen) (fl : Bool) (w : World) (hI : Is w q t) :
    Calls Try.prog 5 #[.slice q t.length c, .bool fl] w fun e w' => e = .returned (.bool true) ∧ Below w.heap.size w w' := by
  have AL := alive_any w
  by_cases h3 : t.length ≤ 300
  · have h3' : ¬ (300 : Int) < t.length := by omega
    have hn : t.length ≤ 1099511627776 := by omega
    have h3'' : (t.length : Int) ≤ 300 := by omega
    have EN := fun W (hW : Below w.heap.size w W) => End_any q t c fl W hn (hI.on hW)
    have hE := end_le t fl
    have hl : (t.take (endP t fl)).length = endP t fl := by rw [List.length_take]; omega
    have E2 := fun W (hW : Below w.heap.size w W) => End_any q (t.take (endP t fl)) c fl W (by omega) ((hI.on hW).take _)
    have K2 := fun W (hW : Below w.heap.size w W) => Key_any q (t.take (endP t fl)) c fl W (by omega) ((hI.on hW).take _)
    have AE := again_end (t := t) (fl := fl)
    have AK := again_key (t := t) (fl := fl)
    rw [hl] at E2 K2
    generalize endP (t.take (endP t fl)) fl = E' at E2 AE
    generalize keyP (t.take (endP t fl)) fl = K' at K2 AK
    generalize endP t fl = E at EN hE E2 K2 AE AK
    clear hl
    have hE' : ¬ (t.length : Int) < E := by omega
    have hE0 : ¬ (E : Int) < 0 := by omega
    have hEc : (E : Int) ≤ c := by omega
    have SL := fun W => slice_to q t.length c E (by omega) W
    cases E with
    | zero =>
      obtain rfl : E' = 0 := AE (fun k e => by omega)
      obtain rfl : K' = -1 := AK (fun k e => by omega)
      have e0 : ((0 : Nat) : Int) = 0 := rfl
      rw [e0] at EN E2 SL
      go_enter Try.func5, Try.ntmps5
      go_wp2_with fail
      refine AL.mono ?_
      rintro e W1 ⟨rfl, hB1⟩
      go_wp2_with fail
      refine (EN _ hB1).mono ?_
      rintro e W2 ⟨rfl, hB2⟩
      have hB2 := hB1.trans (hB2.mono hB1.size)
      have SL2 := SL W2
      go_wp2_with fail
      refine (E2 _ hB2).mono ?_
      rintro e W3 ⟨rfl, hB3⟩
      have hB3 := hB2.trans (hB3.mono hB2.size)
      go_wp2_with fail
      refine (K2 _ hB3).mono ?_
      rintro e W4 ⟨rfl, hB4⟩
      have hB4 := hB3.trans (hB4.mono hB3.size)
      go_wp2
      go_ret
      exact ⟨rfl, hB4⟩
    | succ k =>
      have hk0 : (0 : Int) < ((k + 1 : Nat) : Int) := by omega
      have e1 : ((k + 1 : Nat) : Int) - 1 = (k : Int) := by omega
      have hkk : (k : Int) < ((k + 1 : Nat) : Int) := by omega
      obtain ⟨b, o, rfl, hu⟩ := hI.at (by omega)
      have ck := hu k (by omega)
      have HC : Hid (∀ W, Below w.heap.size w W → W.cell? ⟨b, o + k, none⟩ = some (.int .i64 (iAt t k))) := fun W hW => (hW.cell (p := ⟨b, o + k, none⟩) (World.block_lt_of_cell? w _ ck)).trans ck
      clear hu ck hI
      by_cases h58 : iAt t k = 58
      · rw [h58] at HC
        clear AE AK E2 K2
        generalize ((k + 1 : Nat) : Int) = e2 at *
        go_enter Try.func5, Try.ntmps5
        go_wp2_with fail
        refine AL.mono ?_
        rintro e W1 ⟨rfl, hB1⟩
        go_wp2_with fail
        refine (EN _ hB1).mono ?_
        rintro e W2 ⟨rfl, hB2⟩
        have hB2 := hB1.trans (hB2.mono hB1.size)
        have SL2 := SL W2
        have c0 := HC.out _ hB2
        go_wp2
        go_ret
        exact ⟨rfl, hB2⟩
      · obtain rfl : E' = k + 1 := AE (fun j e => by obtain rfl : j = k := by omega
                                                     exact h58)
        obtain rfl : K' = -1 := AK (fun j e => by obtain rfl : j = k := by omega
                                                  exact h58)
        have h58' : (iAt t k == 58) = false := by simpa using h58
        generalize iAt t k = x at HC h58'
        go_enter Try.func5, Try.ntmps5
        go_wp2_with fail
        refine AL.mono ?_
        rintro e W1 ⟨rfl, hB1⟩
        go_wp2_with fail
        refine (EN _ hB1).mono ?_
        rintro e W2 ⟨rfl, hB2⟩
        have hB2 := hB1.trans (hB2.mono hB1.size)
        have SL2 := SL W2
        have c0 := HC.out _ hB2
        go_wp2_with fail
        refine (E2 _ hB2).mono ?_
        rintro e W3 ⟨rfl, hB3⟩
        have hB3 := hB2.trans (hB3.mono hB2.size)
        go_wp2_with fail
        refine (K2 _ hB3).mono ?_
        rintro e W4 ⟨rfl, hB4⟩
        have hB4 := hB3.trans (hB4.mono hB3.size)
        go_wp2
        go_ret
        exact ⟨rfl, hB4⟩
  · have h3' : (300 : Int) < t.length := by omega
    have hm' := big_int (Nat.le_trans hc hm)
    go_enter Try.func5, Try.ntmps5
    go_wp2_with (first | (go_at_call 7; refine AL.mono ?_; rintro e W ⟨rfl, hB⟩))
    go_ret
    exact ⟨rfl, hB⟩
end Go.Proofs.Ytdpeiggppemmcaa
