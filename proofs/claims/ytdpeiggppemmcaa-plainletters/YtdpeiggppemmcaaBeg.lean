/- Begins, and the document's own PlainBegins; alive. -/
import Derived.Test.YtdpeiggppemmcaaEnk
import Derived.Test.YtdpeiggppemmcaaRen
set_option linter.unusedVariables false
set_option linter.unusedSimpArgs false
namespace Go.Proofs.Ytdpeiggppemmcaa
open Go.RowKit

theorem ah_zero (t : List Int) : ahP t 0 = 10 := rfl

set_option maxRecDepth 100000 in
set_option maxHeartbeats 2000000 in
theorem Begins_any (q : Option Addr) (t : List Int) (c : Nat) (fl : Bool) (w : World) (hn : t.length ≤ 1099511627776) (hI : Is w q t) :
    Calls Try.prog 10 #[.slice q t.length c, .bool fl] w fun e w' => e = .returned (.bool (begP t fl)) ∧ Below w.heap.size w w' := by
  have hn2 : (t.length : Int) ≤ 1099511627776 := by omega
  obtain ⟨V, hV⟩ : ∃ V, begP t fl = V := ⟨_, rfl⟩
  rw [hV]
  unfold begP at hV
  by_cases h : 0 < t.length
  · have h' : ((t.length : Int) == 0) = false := by simp; intro e; subst e; simp at h
    have h'' : (0 : Int) < t.length := by omega
    have SA := signAt_any q t c 0 w hn hI h
    unfold sgV at SA
    rw [ah_zero] at SA
    rw [decide_eq_true h] at hV
    obtain ⟨b, o, rfl, hu⟩ := hI.at h
    have c0 := hu 0 h
    rw [Nat.add_zero] at c0
    have SF := safe_any (iAt t 0) fl
    have SB := safe_any (bhP t 0) fl
    have SI := sign_any (iAt t 0)
    have e0 : ((0 : Nat) : Int) = 0 := rfl
    rw [e0] at SA
    clear hu hI h
    generalize bhP t 0 = y at SA SB hV
    cases hs : safeP (iAt t 0) fl with
    | false =>
      rw [hs] at SF hV
      obtain rfl : false = V := hV
      generalize iAt t 0 = x at c0 SF
      clear hs SA SB SI
      go_enter Try.func10, Try.ntmps10
      go_wp2_with (first | (go_at_call 16; refine (SF _).mono ?_; rintro e w ⟨rfl, rfl⟩))
      go_ret
      exact ⟨rfl, Below.refl _ _⟩
    | true =>
      rw [hs] at SF hV
      generalize safeP y fl = z at SB hV
      generalize signP (iAt t 0) = u at SI hV
      by_cases h1 : iAt t 0 = 45 ∨ iAt t 0 = 63 ∨ iAt t 0 = 58
      · rw [if_pos h1] at hV
        obtain rfl : z = V := hV
        clear hs SI
        rcases h1 with h1 | h1 | h1 <;>
        · rw [h1] at c0 SF SA
          go_enter Try.func10, Try.ntmps10
          go_wp2_with fail
          refine (SF _).mono ?_
          rintro e w ⟨rfl, rfl⟩
          go_wp2_with fail
          refine SA.mono ?_
          rintro e W ⟨rfl, hB⟩
          go_wp2_with fail
          refine (SB _).mono ?_
          rintro e w' ⟨rfl, rfl⟩
          go_wp2
          go_ret
          exact ⟨rfl, hB.alloc hB.size _⟩
      · rw [if_neg h1] at hV
        obtain rfl : (!u) = V := hV
        have h45 : (iAt t 0 == 45) = false := by simp; omega
        have h63 : (iAt t 0 == 63) = false := by simp; omega
        have h58 : (iAt t 0 == 58) = false := by simp; omega
        generalize iAt t 0 = x at c0 SF SA SI h45 h63 h58
        clear hs SB
        go_enter Try.func10, Try.ntmps10
        go_wp2_with (first | (go_at_call 16; refine (SF _).mono ?_; rintro e w ⟨rfl, rfl⟩) | (go_at_call 17; refine SA.mono ?_; rintro e W ⟨rfl, hB⟩) | (go_at_call 18; refine (SI _).mono ?_; rintro e w' ⟨rfl, rfl⟩))
        go_ret
        exact ⟨rfl, hB.alloc hB.size _⟩
  · have h0 : t.length = 0 := by omega
    rw [decide_eq_false h] at hV
    obtain rfl : false = V := hV
    rw [h0]
    have e0 : ((0 : Nat) : Int) = 0 := rfl
    go_enter Try.func10, Try.ntmps10
    go_wp2
    go_ret
    exact ⟨rfl, Below.refl _ _⟩

set_option maxRecDepth 100000 in
set_option maxHeartbeats 2000000 in
theorem rBegins_any (q : Option Addr) (t : List Int) (c : Nat) (fl : Bool) (w : World) (hn : t.length ≤ 1099511627776) (hI : Is w q t) :
    Calls Try.prog 11 #[.slice q t.length c, .bool fl] w fun e w' => e = .returned (.bool (begP t fl)) ∧ w' = w := by
  have hn2 : (t.length : Int) ≤ 1099511627776 := by omega
  obtain ⟨V, hV⟩ : ∃ V, begP t fl = V := ⟨_, rfl⟩
  rw [hV]
  unfold begP at hV
  by_cases h : 0 < t.length
  · have h' : ((t.length : Int) == 0) = false := by simp; intro e; subst e; simp at h
    have h'' : (0 : Int) < t.length := by omega
    have SA := safeAt_any q t c (0 + 1) fl w hn hI
    rw [safe_bh, show ((0 + 1 : Nat) : Int) = 1 from rfl] at SA
    rw [decide_eq_true h] at hV
    obtain ⟨b, o, rfl, hu⟩ := hI.at h
    have c0 := hu 0 h
    rw [Nat.add_zero] at c0
    have SF := rsafe_any (iAt t 0) fl
    have SI := rsign_any (iAt t 0)
    clear hu hI h
    generalize bhP t 0 = y at SA hV
    generalize safeP y fl = z at SA hV
    cases hs : safeP (iAt t 0) fl with
    | false =>
      rw [hs] at SF hV
      obtain rfl : false = V := hV
      generalize iAt t 0 = x at c0 SF
      clear hs SA SI
      go_enter Try.func11, Try.ntmps11
      go_wp2_with (first | (go_at_call 19; refine (SF _).mono ?_; rintro e w ⟨rfl, rfl⟩))
      go_ret
      exact ⟨rfl, rfl⟩
    | true =>
      rw [hs] at SF hV
      generalize signP (iAt t 0) = u at SI hV
      by_cases h1 : iAt t 0 = 45 ∨ iAt t 0 = 63 ∨ iAt t 0 = 58
      · rw [if_pos h1] at hV
        obtain rfl : z = V := hV
        clear hs SI
        rcases h1 with h1 | h1 | h1 <;>
        · rw [h1] at c0 SF
          go_enter Try.func11, Try.ntmps11
          go_wp2_with (first | (go_at_call 19; refine (SF _).mono ?_; rintro e w ⟨rfl, rfl⟩) | (go_at_call 20; refine SA.mono ?_; rintro e w ⟨rfl, rfl⟩))
          go_ret
          exact ⟨rfl, rfl⟩
      · rw [if_neg h1] at hV
        obtain rfl : (!u) = V := hV
        have h45 : (iAt t 0 == 45) = false := by simp; omega
        have h63 : (iAt t 0 == 63) = false := by simp; omega
        have h58 : (iAt t 0 == 58) = false := by simp; omega
        generalize iAt t 0 = x at c0 SF SI h45 h63 h58
        clear hs SA
        go_enter Try.func11, Try.ntmps11
        go_wp2_with (first | (go_at_call 19; refine (SF _).mono ?_; rintro e w ⟨rfl, rfl⟩) | (go_at_call 21; refine (SI _).mono ?_; rintro e w' ⟨rfl, rfl⟩))
        go_ret
        exact ⟨rfl, rfl⟩
  · have h0 : t.length = 0 := by omega
    rw [decide_eq_false h] at hV
    obtain rfl : false = V := hV
    rw [h0]
    have e0 : ((0 : Nat) : Int) = 0 := rfl
    go_enter Try.func11, Try.ntmps11
    go_wp2
    go_ret
    exact ⟨rfl, rfl⟩

theorem ex_end : endP [97, 32, 98, 58, 32, 99] false = 3 := by decide +kernel
theorem ex_beg : begP [97] true = true := by decide +kernel

theorem ex1 (w : World) : Calls Try.prog 9 #[.slice (some ⟨w.heap.size, 0, none⟩) 6 6, .bool false] (w.alloc (.cells #[.int .i64 97, .int .i64 32, .int .i64 98, .int .i64 58, .int .i64 32, .int .i64 99] 3)) fun e w' => e = .returned (.int .i64 3) ∧ Below w.heap.size w w' := by
  have h := End_any (some ⟨w.heap.size, 0, none⟩) [97, 32, 98, 58, 32, 99] 6 false (w.alloc (.cells #[.int .i64 97, .int .i64 32, .int .i64 98, .int .i64 58, .int .i64 32, .int .i64 99] 3)) (by simp) (is_of_block (f := (0, 0)) (World.alloc_heap_new w _))
  rw [ex_end] at h
  refine h.mono ?_
  rintro e w' ⟨rfl, hb⟩
  exact ⟨rfl, ((Below.refl _ w).alloc (Nat.le_refl _) _).trans (hb.mono (by simp))⟩
theorem ex2 (w : World) : Calls Try.prog 10 #[.slice (some ⟨w.heap.size, 0, none⟩) 1 1, .bool true] (w.alloc (.cells #[.int .i64 97] 3)) fun e w' => e = .returned (.bool true) ∧ Below w.heap.size w w' := by
  have h := Begins_any (some ⟨w.heap.size, 0, none⟩) [97] 1 true (w.alloc (.cells #[.int .i64 97] 3)) (by simp) (is_of_block (f := (0, 0)) (World.alloc_heap_new w _))
  rw [ex_beg] at h
  refine h.mono ?_
  rintro e w' ⟨rfl, hb⟩
  exact ⟨rfl, ((Below.refl _ w).alloc (Nat.le_refl _) _).trans (hb.mono (by simp))⟩

set_option maxRecDepth 100000 in
set_option maxHeartbeats 1000000 in
theorem alive_any (w : World) : Calls Try.prog 7 #[] w fun e w' => e = .returned (.bool true) ∧ Below w.heap.size w w' := by
  have E1 := ex1 w
  have E2 := ex2
  go_enter Try.func7, Try.ntmps7
  go_wp2_with (first | (go_at_call 9; refine E1.mono ?_; rintro e W1 ⟨rfl, hb1⟩) | (go_at_call 10; refine (E2 _).mono ?_; rintro e W2 ⟨rfl, hb2⟩))
  go_ret
  exact ⟨rfl, hb1.trans (hb2.mono hb1.size)⟩
end Go.Proofs.Ytdpeiggppemmcaa
