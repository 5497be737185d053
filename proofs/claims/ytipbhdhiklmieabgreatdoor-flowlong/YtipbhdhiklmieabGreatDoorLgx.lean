/- FlowLong's walk, whole. -/
import Derived.Test.YtipbhdhiklmieabGreatDoorLgw
set_option linter.unusedVariables false
set_option linter.unusedSimpArgs false
set_option maxRecDepth 100000
set_option maxHeartbeats 8000000
namespace Go.Proofs.YtipbhdhiklmieabGreatDoor
open Go.RowKit Go.Shelf
theorem long_walk (N : Nat) (w : World) (hN : 0 < N) (hN2 : N ≤ 1100) (hT : P7.Tab w) : Calls Tryz.prog 5 #[.int .i64 (N : Nat)] w fun e w' => e = .returned (.bool true) ∧ Below w.heap.size w w' := by
  have h1 : ¬ (N : Int) < 1 := by omega
  have h2 : ¬ (1100 : Int) < (N : Int) := by omega
  have QA : Hid (∀ k, k ≤ 1100 → (repS ⟨#[120]⟩ k).size ≤ 1100) := fun k hk => by rw [repS_size]; show k * 1 ≤ _; omega
  have zN := QA.out N hN2
  have q1 : (⟨#[120]⟩ : ByteArray).size = 1 := rfl
  have q2 : (⟨#[91]⟩ : ByteArray).size = 1 := rfl
  have q3 : (⟨#[123]⟩ : ByteArray).size = 1 := rfl
  have q4 : (⟨#[58, 32, 98, 93]⟩ : ByteArray).size = 4 := rfl
  have q5 : (⟨#[58, 32, 98, 125]⟩ : ByteArray).size = 4 := rfl
  have q6 : (⟨#[58, 32, 98]⟩ : ByteArray).size = 3 := rfl
  have TA := addS ⟨#[91]⟩ (repS ⟨#[120]⟩ N) (by omega) (by omega)
  have TB := addS (⟨#[91]⟩ ++ repS ⟨#[120]⟩ N) ⟨#[58, 32, 98, 93]⟩ (by rw [apZ]; omega) (by omega)
  have TC := addS ⟨#[123]⟩ (repS ⟨#[120]⟩ N) (by omega) (by omega)
  have TD := addS (⟨#[123]⟩ ++ repS ⟨#[120]⟩ N) ⟨#[58, 32, 98, 125]⟩ (by rw [apZ]; omega) (by omega)
  have TE := addS (repS ⟨#[120]⟩ N) ⟨#[58, 32, 98]⟩ (by omega) (by omega)
  have LA := Lines_six _ (brk_text N) (by rw [apZ, apZ]; omega) (lng_six N (.inl rfl) (.inl rfl))
  have LB := Lines_six _ (brc_text N) (by rw [apZ, apZ]; omega) (lng_six N (.inr rfl) (.inr rfl))
  have LC := Lines_six _ (key_text N) (by rw [apZ]; omega) (key_six N)
  have HA : Hid ((lpsO (lngT 91 N 93)).length ≤ 600 ∧ (lngT 91 N 93).length ≤ 1300) := ⟨by rw [lng_one N (.inl rfl) (.inl rfl)]; show 1 ≤ 600; decide, by rw [lng_len]; omega⟩
  have HB : Hid ((lpsO (lngT 123 N 125)).length ≤ 600 ∧ (lngT 123 N 125).length ≤ 1300) := ⟨by rw [lng_one N (.inr rfl) (.inr rfl)]; show 1 ≤ 600; decide, by rw [lng_len]; omega⟩
  have HC : Hid ((lpsO (keyT N)).length ≤ 600 ∧ (keyT N).length ≤ 1300) := ⟨by rw [key_one N hN]; show 1 ≤ 600; decide, by rw [key_len]; omega⟩
  obtain ⟨f1, i1, k1, ev1, e1, ha1, hr⟩ := long_sum N hN
  obtain ⟨f2, i2, k2, ev2, ha2⟩ := long_brc N hN
  have HA1 : Hid _ := ha1
  have HA2 : Hid _ := ha2
  have KR : Hid (∀ {V : World} {rb : Nat}, Rdy V rb (keyT N) → P7.Tab V → _) := fun {V rb} => Key_rdy (w := V) (rb := rb) hN hN2
  have HR : Hid _ := hr
  have AL := alive_any w hT
  have HT : Hid (P7.Tab w) := hT
  obtain ⟨A, hA⟩ : ∃ A, (⟨#[120]⟩ : ByteArray) = A := ⟨_, rfl⟩
  rw [hA] at QA zN TA TB TC TD TE LA LB LC
  have HX : Hid ((⟨#[120]⟩ : ByteArray) = A) := hA
  generalize lngT 91 N 93 = ta at LA HA HA1
  generalize lngT 123 N 125 = tb at LB HB HA2
  generalize keyT N = tc at LC HC KR
  clear hA ha1 ha2 hr hT
  go_enter Tryz.func5, Tryz.ntmps5
  go_wp2_with fail
  refine AL.mono ?_
  clear AL
  rintro e w1 ⟨rfl, hB1⟩
  go_wp2
  go_loopw [4, 5] (fun sa i wr => ∃ (k : Nat), k ≤ N ∧ sa = .string (repS A k) ∧ i = .int .i64 (k : Nat) ∧ wr = w1) (fun _ i _ => N - (intOf i).toNat)
  case atStart => exact ⟨0, Nat.zero_le _, rfl, rfl, rfl⟩
  case round =>
    obtain ⟨k, hk, rfl, rfl, rfl⟩ := hrel
    by_cases hlt : k < N
    · have hki : (k : Int) < (N : Int) := by omega
      have zA := QA.out k (by omega)
      clear LA LB LC TA TB TC TD TE
      go_wp2
      go_roundw
      case rel => exact ⟨k + 1, by omega, by rw [repS, ← HX.out], by go_num, trivial⟩
      case measure => simp [intOf]; omega
    · obtain rfl : k = N := by omega
      go_wp2_with fail
      refine (LA _).mono ?_
      clear LA TA TB
      rintro e W1 ⟨p1, n1, c1, rfl, hg1, hb1⟩
      have hw1 := hB1.trans (hb1.mono hB1.size)
      have NW := New_txt c1 hg1 HA.out.1 HA.out.2
      clear hg1 hb1
      go_wp2_with fail
      refine NW.mono ?_
      clear NW
      rintro e W2 ⟨rb, rfl, hr2, hb2⟩
      have hw2 := hw1.trans (hb2.mono hw1.size)
      have NO := Node_row hr2 HA.out.1 HA.out.2 (HT.out.on hw2) (by decide) (by decide) HA1.out
      clear hr2 hb2 hw1 HA HA1
      go_wp2_with fail
      refine NO.mono ?_
      clear NO
      rintro e W3 ⟨p3, c3, rfl, -, -, hb3⟩
      have hw3 := hw2.trans (hb3.mono hw2.size)
      clear hb3 hw2
      go_wp2_with fail
      refine (LB _).mono ?_
      clear LB TC TD
      rintro e W4 ⟨p4, n4, c4, rfl, hg4, hb4⟩
      have hw4 := hw3.trans (hb4.mono hw3.size)
      have NW := New_txt c4 hg4 HB.out.1 HB.out.2
      clear hg4 hb4 hw3
      go_wp2_with fail
      refine NW.mono ?_
      clear NW
      rintro e W5 ⟨rb5, rfl, hr5, hb5⟩
      have hw5 := hw4.trans (hb5.mono hw4.size)
      have NO := Node_row hr5 HB.out.1 HB.out.2 (HT.out.on hw5) (by decide) (by decide) HA2.out
      clear hr5 hb5 hw4 HB HA2
      go_wp2_with fail
      refine NO.mono ?_
      clear NO
      rintro e W6 ⟨p6, c6, rfl, -, -, hb6⟩
      have hw6 := hw5.trans (hb6.mono hw5.size)
      clear hb6 hw5
      go_wp2_with fail
      refine (LC _).mono ?_
      clear LC TE
      rintro e W7 ⟨p7, n7, c7, rfl, hg7, hb7⟩
      have hw7 := hw6.trans (hb7.mono hw6.size)
      have NW := New_txt c7 hg7 HC.out.1 HC.out.2
      clear hg7 hb7 hw6
      go_wp2_with fail
      refine NW.mono ?_
      clear NW
      rintro e W8 ⟨rb8, rfl, hr8, hb8⟩
      have hw8 := hw7.trans (hb8.mono hw7.size)
      have KY := KR.out hr8 (HT.out.on hw8)
      clear hr8 hb8 hw7 HC KR HT
      rcases HR.out with ⟨hn, rfl, hl⟩ | ⟨hn, rfl, hl⟩
      · rw [if_pos hn, decide_eq_false (by omega)] at KY
        have hl' : (ev1.length : Int) = 0 := by omega
        have hn' : (1024 : Int) < (k : Int) := by omega
        clear HR
        go_wp2_with fail
        refine KY.mono ?_
        clear KY
        rintro e W9 ⟨rfl, hb9⟩
        have hw9 := hw8.trans (hb9.mono hw8.size)
        go_wp2_with (first | (go_at_call 10; refine (num_any _ _).mono ?_; rintro e W4 ⟨rfl, rfl⟩))
        go_ret
        exact ⟨rfl, hw9⟩
      · rw [if_neg (by omega), decide_eq_true hn] at KY
        have hl' : (ev1.length : Int) = 6 := by omega
        have hn' : ¬ (1024 : Int) < (k : Int) := by omega
        clear HR
        go_wp2_with fail
        refine KY.mono ?_
        clear KY
        rintro e W9 ⟨rfl, hb9⟩
        have hw9 := hw8.trans (hb9.mono hw8.size)
        go_wp2_with (first | (go_at_call 10; refine (num_any _ _).mono ?_; rintro e W4 ⟨rfl, rfl⟩))
        go_ret
        exact ⟨rfl, hw9⟩
theorem long_out (a : Int) (w : World) (h : ¬ (1 ≤ a ∧ a ≤ 1100)) (hT : P7.Tab w) : Calls Tryz.prog 5 #[.int .i64 a] w fun e w' => e = .returned (.bool true) ∧ Below w.heap.size w w' := by
  have AL := alive_any w hT
  clear hT
  by_cases h1 : a < 1
  · clear h
    go_enter Tryz.func5, Tryz.ntmps5
    go_wp2_with fail
    refine AL.mono ?_
    clear AL
    rintro e w1 ⟨rfl, hB1⟩
    go_wp2
    go_ret
    exact ⟨rfl, hB1⟩
  · have h2 : 1100 < a := by omega
    clear h
    go_enter Tryz.func5, Tryz.ntmps5
    go_wp2_with fail
    refine AL.mono ?_
    clear AL
    rintro e w1 ⟨rfl, hB1⟩
    go_wp2
    go_ret
    exact ⟨rfl, hB1⟩
theorem FlowLong_any (a : Int) (w : World) (hT : P7.Tab w) : Calls Tryz.prog 5 #[.int .i64 a] w fun e w' => e = .returned (.bool true) ∧ Below w.heap.size w w' := by
  by_cases h : 1 ≤ a ∧ a ≤ 1100
  · obtain ⟨i, rfl⟩ := Int.eq_ofNat_of_zero_le (show 0 ≤ a by omega)
    exact long_walk i w (by omega) (by omega) hT
  · exact long_out a w h hT
end Go.Proofs.YtipbhdhiklmieabGreatDoor
