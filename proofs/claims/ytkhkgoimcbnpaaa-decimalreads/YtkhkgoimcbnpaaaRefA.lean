/- The document's own digitsOf, number, times, written. -/
import Derived.Test.YtkhkgoimcbnpaaaTimes
import Derived.Test.YtkhkgoimcbnpaaaText
set_option linter.unusedVariables false
set_option linter.unusedSimpArgs false
namespace Go.Proofs.Ytkhkgoimcbnpaaa
open Go.RowKit

theorem wrap_byte' (c : UInt8) : wrap64 (c.toNat : Int) = (c.toNat : Int) := by have := c.toNat_lt; unfold wrap64; omega

theorem empty_not {s : ByteArray} (h : 0 < s.size) : s.toList.isEmpty = false := by
  rw [ByteArray.toList_eq, List.isEmpty_eq_false_iff]
  intro e
  have := congrArg List.length e
  simp at this
  rw [this] at h
  exact absurd h (by decide)
theorem empty_eq {s : ByteArray} (h : s.size = 0) : s = ⟨#[]⟩ := by
  apply ByteArray.ext
  exact Array.eq_empty_of_size_eq_zero h

set_option maxRecDepth 100000 in
set_option maxHeartbeats 1000000 in
theorem digitsOf_yes (s : ByteArray) (base : Int) (w : World) (hok : okS s base = true) :
    Calls Try.prog 35 #[.string s, .int .i64 base] w fun e w' => ∃ v, e = .returned v ∧ Own .i64 3 w.heap.size w' v (msd s.data.toList) ∧ Below w.heap.size w w' := by
  obtain ⟨hbp, hs0, hs1, -⟩ := okS_iff.1 hok
  have hs0' : s.toList.isEmpty = false := empty_not hs0
  have hs1' : ¬ (5000 : Int) < s.size := by omega
  have hbr := baseP_iff.1 hbp
  have hb1 : base ≤ 16 := by omega
  rcases hbr with rfl | rfl | rfl
  all_goals
    go_enter Try.func35, Try.ntmps35
    go_wp2
    go_loopw [5, 6] (fun v iv wr => ∃ (k : Nat), k ≤ s.size ∧ iv = .int .i64 k ∧ Hid (Own .i64 3 w.heap.size wr v (msd (s.data.toList.take k))) ∧ Below w.heap.size w wr) (fun _ iv _ => s.size - (intOf iv).toNat)
    case atStart => exact ⟨0, Nat.zero_le _, rfl, Own.nil _ _ _ _, Below.refl _ _⟩
    case round =>
      obtain ⟨k, hk, rfl, HO, hBw⟩ := hrel
      obtain ⟨L, hL⟩ : ∃ L, msd (s.data.toList.take k) = L := ⟨_, rfl⟩
      have HL : Hid (msd (s.data.toList.take k) = L) := hL
      have hlen : L.length ≤ 5000 := by rw [← hL]; simp [msd]; omega
      rw [hL] at HO
      clear hL
      obtain ⟨p, cap, rfl, -⟩ := HO.out.form
      by_cases hj : k < s.size
      · have hD := okD_iff.1 (okS_at hok k hj)
        have hr := hexP_range s[k]
        have hwr := wrap_byte' s[k]
        have X := fun w2 => rhex_any (s[k].toNat : Int) w2 (by omega) (by have := s[k].toNat_lt; omega)
        obtain ⟨g, cp, w2, hrun, HO2, hB2⟩ := push64 HO.out hBw.size (hexN s[k]) (by omega)
        rw [hexN_cast hD.1] at hrun
        have HO2 : Hid (Own .i64 3 w.heap.size w2 (.slice (some ⟨g, 0, none⟩) (L.length + 1) cp) (msd (s.data.toList.take (k + 1)))) := by
          rw [byte_take s k hj]
          have := HL.out
          unfold msd at this ⊢
          rw [List.map_append, this]
          exact HO2
        have hD1 := hD.1
        have hD2 := hD.2
        generalize hexP (s[k].toNat : Int) = x at X hrun hr hD1 hD2
        have hki : (k : Int) < s.size := by omega
        clear hD HO
        go_wp2_with (first | (go_at_call 48; refine (X _).mono ?_; rintro e wr ⟨rfl, rfl⟩) | (at_builtin; refine wpList_append_run rfl _ _ 63 rfl rfl rfl hrun ?_))
        go_roundw
        case rel => exact ⟨k + 1, by omega, by go_num, HO2, hBw.trans hB2⟩
        case measure => simp [intOf] <;> omega
      · obtain rfl : k = s.size := by omega
        have e : msd (s.data.toList.take s.size) = msd s.data.toList := by rw [List.take_of_length_le (by simp)]
        have HL2 : Hid (msd s.data.toList = L) := e.symm.trans HL.out
        clear e HL
        go_wp2
        go_ret
        exact ⟨_, rfl, by rw [HL2.out]; exact HO.out, hBw⟩

set_option maxRecDepth 100000 in
set_option maxHeartbeats 1000000 in
theorem digitsOf_no1 (s : ByteArray) (base : Int) (w : World) (h : s.size = 0 ∨ (0 < s.size ∧ (5000 < s.size ∨ (s.size ≤ 5000 ∧ baseP base = false)))) :
    Calls Try.prog 35 #[.string s, .int .i64 base] w fun e w' => e = .returned (.slice none 0 0) ∧ w' = w := by
  rcases h with hs | ⟨hs0, hs | ⟨hs, hb⟩⟩
  · obtain rfl := empty_eq hs
    clear hs
    go_enter Try.func35, Try.ntmps35
    go_wp2
    go_ret
    exact ⟨rfl, rfl⟩
  · have hs0' : s.toList.isEmpty = false := empty_not hs0
    have hs1' : (5000 : Int) < s.size := by omega
    go_enter Try.func35, Try.ntmps35
    go_wp2
    go_ret
    exact ⟨rfl, rfl⟩
  · have hs0' : s.toList.isEmpty = false := empty_not hs0
    have hs1' : ¬ (5000 : Int) < s.size := by omega
    have h3 : ¬ (base = 8 ∨ base = 10 ∨ base = 16) := fun h => by rw [baseP_iff.2 h] at hb; cases hb
    have b1 : (base != 8) = true := by simp; omega
    have b2 : (base != 10) = true := by simp; omega
    have b3 : (base != 16) = true := by simp; omega
    clear h3 hb
    go_enter Try.func35, Try.ntmps35
    go_wp2
    go_ret
    exact ⟨rfl, rfl⟩

set_option maxRecDepth 100000 in
set_option maxHeartbeats 1000000 in
theorem digitsOf_no2 (s : ByteArray) (base : Int) (w : World) (hbp : baseP base = true) (hs0 : 0 < s.size) (hs1 : s.size ≤ 5000) (hbad : s.data.toList.all (okD base) = false) :
    Calls Try.prog 35 #[.string s, .int .i64 base] w fun e w' => e = .returned (.slice none 0 0) ∧ Below w.heap.size w w' := by
  have hs0' : s.toList.isEmpty = false := empty_not hs0
  have hs1' : ¬ (5000 : Int) < s.size := by omega
  have hbr := baseP_iff.1 hbp
  obtain ⟨P, hP⟩ : ∃ P : UInt8 → Bool, okD base = P := ⟨_, rfl⟩
  have hPi : ∀ c : UInt8, P c = true ↔ 0 ≤ hexP (c.toNat : Int) ∧ hexP (c.toNat : Int) < base := fun c => by rw [← hP]; exact okD_iff
  rw [hP] at hbad
  have HB : Hid (s.data.toList.all P = false) := hbad
  have HP : Hid (∀ c : UInt8, P c = true ↔ 0 ≤ hexP (c.toNat : Int) ∧ hexP (c.toNat : Int) < base) := hPi
  clear hbad hP hPi
  rcases hbr with rfl | rfl | rfl
  all_goals
    go_enter Try.func35, Try.ntmps35
    go_wp2
    go_loopw [5, 6] (fun v iv wr => ∃ (k : Nat) (L : List Nat), k ≤ s.size ∧ iv = .int .i64 k ∧ Hid (Own .i64 3 w.heap.size wr v L) ∧ Hid (L.length = k) ∧ Hid ((s.data.toList.take k).all P = true) ∧ Below w.heap.size w wr) (fun _ iv _ => s.size - (intOf iv).toNat)
    case atStart => exact ⟨0, [], Nat.zero_le _, rfl, Own.nil _ _ _ _, (show _ = _ from rfl), (show _ = true from rfl), Below.refl _ _⟩
    case round =>
      obtain ⟨k, L, hk, rfl, HO, HLn, HA, hBw⟩ := hrel
      have hlen : L.length ≤ 5000 := by have := HLn.out; omega
      obtain ⟨p, cap, rfl, -⟩ := HO.out.form
      by_cases hj : k < s.size
      · have hr := hexP_range s[k]
        have hwr := wrap_byte' s[k]
        have X := fun w2 => rhex_any (s[k].toNat : Int) w2 (by omega) (by have := s[k].toNat_lt; omega)
        obtain ⟨g, cp, w2, hrun, HO2, hB2⟩ := push64 HO.out hBw.size (hexN s[k]) (by omega)
        have hki : (k : Int) < s.size := by omega
        by_cases hD : P s[k] = true
        · have hD' := (HP.out _).1 hD
          rw [hexN_cast hD'.1] at hrun
          have HA2 := HA.out
          have HA2 : Hid ((s.data.toList.take (k + 1)).all P = true) := by
            show _ = true
            rw [byte_take s k hj, List.all_append, HA2, List.all_cons, hD]; rfl
          have HO2 : Hid _ := HO2
          have hD1 := hD'.1
          have hD2 := hD'.2
          generalize hexP (s[k].toNat : Int) = x at X hrun hr hD1 hD2
          clear hD hD' HO
          go_wp2_with (first | (go_at_call 48; refine (X _).mono ?_; rintro e wr ⟨rfl, rfl⟩) | (at_builtin; refine wpList_append_run rfl _ _ 63 rfl rfl rfl hrun ?_))
          go_roundw
          case rel => exact ⟨k + 1, _, by omega, by go_num, HO2, (by have := HLn.out; show _ = _; simp; omega), HA2, hBw.trans hB2⟩
          case measure => simp [intOf] <;> omega
        · have hD' := fun h => hD ((HP.out _).2 h)
          clear hrun HO2 hD
          generalize hexP (s[k].toNat : Int) = x at X hr hD'
          clear HO
          by_cases h0 : x < 0
          · clear hD'
            go_wp2_with (first | (go_at_call 48; refine (X _).mono ?_; rintro e wr ⟨rfl, rfl⟩))
            go_ret
            exact ⟨rfl, hBw⟩
          · have h1 : _ ≤ x := Int.not_lt.1 (fun h => hD' ⟨by omega, h⟩)
            clear hD'
            go_wp2_with (first | (go_at_call 48; refine (X _).mono ?_; rintro e wr ⟨rfl, rfl⟩))
            go_ret
            exact ⟨rfl, hBw⟩
      · obtain rfl : k = s.size := by omega
        have h1 := HA.out
        rw [List.take_of_length_le (by simp), HB.out] at h1
        cases h1

theorem digitsOf_no (s : ByteArray) (base : Int) (w : World) (hok : okS s base = false) :
    Calls Try.prog 35 #[.string s, .int .i64 base] w fun e w' => e = .returned (.slice none 0 0) ∧ Below w.heap.size w w' := by
  by_cases h : s.size = 0 ∨ (0 < s.size ∧ (5000 < s.size ∨ (s.size ≤ 5000 ∧ baseP base = false)))
  · refine (digitsOf_no1 s base w h).mono ?_
    rintro e w' ⟨rfl, rfl⟩
    exact ⟨rfl, Below.refl _ _⟩
  · have h0 : 0 < s.size := by
      by_cases e : s.size = 0
      · exact absurd (.inl e) h
      · omega
    have h1 : s.size ≤ 5000 := by
      by_cases e : 5000 < s.size
      · exact absurd (.inr ⟨h0, .inl e⟩) h
      · omega
    have hb : baseP base = true := by
      cases hb : baseP base
      · exact absurd (.inr ⟨h0, .inr ⟨h1, hb⟩⟩) h
      · rfl
    refine digitsOf_no2 s base w hb h0 h1 ?_
    cases ha : s.data.toList.all (okD base)
    · rfl
    · exact absurd (okS_iff.2 ⟨hb, h0, h1, ha⟩) (by rw [hok]; decide)
end Go.Proofs.Ytkhkgoimcbnpaaa
