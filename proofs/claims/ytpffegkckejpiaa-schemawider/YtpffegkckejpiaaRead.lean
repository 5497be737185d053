/- read and number: the digits of a text, or that it is no number. -/
import Derived.Test.YtpffegkckejpiaaText
set_option linter.unusedVariables false
set_option linter.unusedSimpArgs false
namespace Go.Proofs.Ytpffegkckejpiaa
open Go.RowKit

theorem wrap_byte (c : UInt8) : wrap64 (c.toNat : Int) = (c.toNat : Int) := by have := c.toNat_lt; unfold wrap64; omega

set_option maxRecDepth 100000 in
set_option maxHeartbeats 1000000 in
theorem read_yes (s : ByteArray) (base : Int) (w : World) (hok : okS s base = true) :
    Calls Try.prog 50 #[.string s, .int .i64 base] w fun e w' => ∃ v, e = .returned (.tuple #[v, .bool true]) ∧ Own .u8 5 w.heap.size w' v (trimL (lsd s)) ∧ Below w.heap.size w w' := by
  obtain ⟨hbp, hs0, hs1, -⟩ := okS_iff.1 hok
  obtain ⟨w1, MK, HO0, hB0, -⟩ := own_make (t := 62) Try.underlying62 Try.info5 (by decide) w.heap.size w s.size (by omega) (Nat.le_refl _)
  have HO0 : Hid _ := HO0
  have hs0' : ((s.size : Int) == 0) = false := beq_false_of_ne (by omega)
  have hs1' : ¬ (5000 : Int) < s.size := by omega
  have hbr := baseP_iff.1 hbp
  have hb1 : base ≤ 16 := by omega
  clear hbr
  go_enter Try.func50, Try.ntmps50
  go_wp2_with (first | (go_at_call 66; refine (isBase_any _ _).mono ?_; rintro e w ⟨rfl, rfl⟩))
  go_loopw [6, 7] (fun v iv wr => ∃ (k : Nat), k ≤ s.size ∧ iv = .int .i64 ((k : Int) - 1) ∧ Hid (Own .u8 5 w.heap.size wr v (msd (s.data.toList.drop k)).reverse) ∧ Below w.heap.size w wr) (fun _ iv _ => (intOf iv + 1).toNat)
  case atStart => exact ⟨s.size, Nat.le_refl _, rfl, (show Own _ _ _ _ _ _ by rw [List.drop_of_length_le (by simp)]; exact HO0.out), hB0⟩
  case round =>
    obtain ⟨k, hk, rfl, HO, hBw⟩ := hrel
    obtain ⟨L, hL⟩ : ∃ L, (msd (s.data.toList.drop k)).reverse = L := ⟨_, rfl⟩
    have HL : Hid ((msd (s.data.toList.drop k)).reverse = L) := hL
    have hlen : L.length ≤ 5000 := by rw [← hL]; simp [msd]; omega
    rw [hL] at HO
    clear hL
    obtain ⟨p, cap, rfl, hc1, hc2, hrd, -⟩ := HO.out.form
    cases k with
    | zero =>
      have h00 : ¬ (0 : Int) ≤ ((0 : Nat) : Int) - 1 := by omega
      have T := trim8_any p L cap wr hc1 (by unfold maxLen at hc2; omega) hrd
      have hS := HO.out.short (trimLen_le _)
      have e : trimL L = trimL (lsd s) := by have := HL.out; rw [List.drop_zero] at this; rw [← this]; rfl
      have HS : Hid (Own .u8 5 w.heap.size wr (.slice p (trimLen L) cap) (trimL (lsd s))) := by rw [← e]; exact hS
      clear HO hrd hS e
      go_wp2_with (first | (go_at_call 68; refine T.mono ?_; rintro e wr ⟨rfl, rfl⟩))
      go_ret2
      exact ⟨_, rfl, HS.out, hBw⟩
    | succ j =>
      have hj : j < s.size := by omega
      have hi : (((j + 1 : Nat) : Int) - 1) = (j : Int) := by omega
      have h00 : (0 : Int) ≤ j := by omega
      have hD := okD_iff.1 (okS_at hok j hj)
      have hr := hexP_range s[j]
      obtain ⟨g, cp, w2, hrun, HO2, hB2⟩ := push8 HO.out hBw.size (hexN s[j]) (by omega)
      rw [hexN_cast hD.1] at hrun
      have HO2 : Hid (Own .u8 5 w.heap.size w2 (.slice (some ⟨g, 0, none⟩) (L.length + 1) cp) (msd (s.data.toList.drop j)).reverse) := by
        rw [byte_drop s j hj, msd, List.map_cons, List.reverse_cons]
        have := HL.out
        unfold msd at this
        rw [this]
        exact HO2
      have hwr := wrap_byte s[j]
      have X := fun w2 => hex_any (s[j].toNat : Int) w2 (by omega) (by have := s[j].toNat_lt; omega)
      have hD1 := hD.1
      have hD2 := hD.2
      generalize hexP (s[j].toNat : Int) = x at X hrun hr hD1 hD2
      rw [hi]
      clear hi hD HO hrd
      go_wp2_with (first | (go_at_call 67; refine (X _).mono ?_; rintro e wr ⟨rfl, rfl⟩) | (at_builtin; refine wpList_append_run rfl _ _ 62 rfl rfl rfl hrun ?_))
      go_roundw
      case rel => exact ⟨j, by omega, by go_num, HO2, hBw.trans hB2⟩
      case measure => simp [intOf] <;> omega

set_option maxRecDepth 100000 in
set_option maxHeartbeats 1000000 in
theorem read_no1 (s : ByteArray) (base : Int) (w : World) (h : baseP base = false ∨ (baseP base = true ∧ (s.size = 0 ∨ 5000 < s.size))) :
    Calls Try.prog 50 #[.string s, .int .i64 base] w fun e w' => e = .returned (.tuple #[.slice none 0 0, .bool false]) ∧ w' = w := by
  rcases h with hb | ⟨hb, hs | hs⟩
  · go_enter Try.func50, Try.ntmps50
    go_wp2_with (first | (go_at_call 66; refine (isBase_any _ _).mono ?_; rintro e w ⟨rfl, rfl⟩))
    go_ret2
    exact ⟨rfl, rfl⟩
  · have h0 : ((s.size : Int) == 0) = true := by rw [hs]; rfl
    clear hs
    go_enter Try.func50, Try.ntmps50
    go_wp2_with (first | (go_at_call 66; refine (isBase_any _ _).mono ?_; rintro e w ⟨rfl, rfl⟩))
    go_ret2
    exact ⟨rfl, rfl⟩
  · have h0 : ((s.size : Int) == 0) = false := beq_false_of_ne (by omega)
    have h1 : (5000 : Int) < s.size := by omega
    go_enter Try.func50, Try.ntmps50
    go_wp2_with (first | (go_at_call 66; refine (isBase_any _ _).mono ?_; rintro e w ⟨rfl, rfl⟩))
    go_ret2
    exact ⟨rfl, rfl⟩

set_option maxRecDepth 100000 in
set_option maxHeartbeats 1000000 in
theorem read_no2 (s : ByteArray) (base : Int) (w : World) (hbp : baseP base = true) (hs0 : 0 < s.size) (hs1 : s.size ≤ 5000) (hbad : s.data.toList.all (okD base) = false) :
    Calls Try.prog 50 #[.string s, .int .i64 base] w fun e w' => e = .returned (.tuple #[.slice none 0 0, .bool false]) ∧ Below w.heap.size w w' := by
  obtain ⟨w1, MK, HO0, hB0, -⟩ := own_make (t := 62) Try.underlying62 Try.info5 (by decide) w.heap.size w s.size (by omega) (Nat.le_refl _)
  have HO0 : Hid _ := HO0
  have hs0' : ((s.size : Int) == 0) = false := beq_false_of_ne (by omega)
  have hs1' : ¬ (5000 : Int) < s.size := by omega
  have hbr := baseP_iff.1 hbp
  have hb1 : base ≤ 16 := by omega
  have HB : Hid (s.data.toList.all (okD base) = false) := hbad
  clear hbr hbad
  go_enter Try.func50, Try.ntmps50
  go_wp2_with (first | (go_at_call 66; refine (isBase_any _ _).mono ?_; rintro e w ⟨rfl, rfl⟩))
  go_loopw [6, 7] (fun v iv wr => ∃ (k : Nat) (L : List Nat), k ≤ s.size ∧ iv = .int .i64 ((k : Int) - 1) ∧ Hid (Own .u8 5 w.heap.size wr v L) ∧ Hid (L.length + k = s.size) ∧ Hid ((s.data.toList.drop k).all (okD base) = true) ∧ Below w.heap.size w wr) (fun _ iv _ => (intOf iv + 1).toNat)
  case atStart => exact ⟨s.size, [], Nat.le_refl _, rfl, HO0.out, (show 0 + s.size = s.size by omega), (show _ = true by rw [List.drop_of_length_le (by simp)]; rfl), hB0⟩
  case round =>
    obtain ⟨k, L, hk, rfl, HO, HL, HA, hBw⟩ := hrel
    have hlen : L.length ≤ 5000 := by have := HL.out; omega
    obtain ⟨p, cap, rfl, hc1, hc2, hrd, -⟩ := HO.out.form
    cases k with
    | zero => have h1 := HA.out; rw [List.drop_zero, HB.out] at h1; cases h1
    | succ j =>
      have hj : j < s.size := by omega
      have hi : (((j + 1 : Nat) : Int) - 1) = (j : Int) := by omega
      have h00 : (0 : Int) ≤ j := by omega
      have hr := hexP_range s[j]
      have hwr := wrap_byte s[j]
      have X := fun w2 => hex_any (s[j].toNat : Int) w2 (by omega) (by have := s[j].toNat_lt; omega)
      obtain ⟨g, cp, w2, hrun, HO2, hB2⟩ := push8 HO.out hBw.size (hexN s[j]) (by omega)
      by_cases hD : okD base s[j] = true
      · have hD' := okD_iff.1 hD
        rw [hexN_cast hD'.1] at hrun
        have HA2 : Hid ((s.data.toList.drop j).all (okD base) = true) := by
          show _ = true
          rw [byte_drop s j hj, List.all_cons, hD, HA.out]; rfl
        have HO2 : Hid _ := HO2
        have HL2 : Hid ((L ++ [hexN s[j]]).length + j = s.size) := by have := HL.out; show _ = _; simp; omega
        have hD1 := hD'.1
        have hD2 := hD'.2
        generalize hexP (s[j].toNat : Int) = x at X hrun hr hD1 hD2
        rw [hi]
        clear hi hD hD' HO hrd
        go_wp2_with (first | (go_at_call 67; refine (X _).mono ?_; rintro e wr ⟨rfl, rfl⟩) | (at_builtin; refine wpList_append_run rfl _ _ 62 rfl rfl rfl hrun ?_))
        go_roundw
        case rel => exact ⟨j, _, by omega, by go_num, HO2, HL2, HA2, hBw.trans hB2⟩
        case measure => simp [intOf] <;> omega
      · have hD' : ¬ (0 ≤ hexP (s[j].toNat : Int) ∧ hexP (s[j].toNat : Int) < base) := fun h => hD (okD_iff.2 h)
        clear hrun HO2
        generalize hexP (s[j].toNat : Int) = x at X hr hD'
        rw [hi]
        clear hi hD HO hrd
        by_cases h0 : x < 0
        · clear hD'
          go_wp2_with (first | (go_at_call 67; refine (X _).mono ?_; rintro e wr ⟨rfl, rfl⟩))
          go_ret2
          exact ⟨rfl, hBw⟩
        · have h1 : base ≤ x := by omega
          clear hD'
          go_wp2_with (first | (go_at_call 67; refine (X _).mono ?_; rintro e wr ⟨rfl, rfl⟩))
          go_ret2
          exact ⟨rfl, hBw⟩

theorem read_no (s : ByteArray) (base : Int) (w : World) (hok : okS s base = false) :
    Calls Try.prog 50 #[.string s, .int .i64 base] w fun e w' => e = .returned (.tuple #[.slice none 0 0, .bool false]) ∧ Below w.heap.size w w' := by
  by_cases h : baseP base = false ∨ (baseP base = true ∧ (s.size = 0 ∨ 5000 < s.size))
  · refine (read_no1 s base w h).mono ?_
    rintro e w' ⟨rfl, rfl⟩
    exact ⟨rfl, Below.refl _ _⟩
  · have hb : baseP base = true := by
      cases hb : baseP base
      · exact absurd (.inl hb) h
      · rfl
    have h0 : 0 < s.size := by
      by_cases e : s.size = 0
      · exact absurd (.inr ⟨hb, .inl e⟩) h
      · omega
    have h1 : s.size ≤ 5000 := by
      by_cases e : 5000 < s.size
      · exact absurd (.inr ⟨hb, .inr e⟩) h
      · omega
    refine read_no2 s base w hb h0 h1 ?_
    cases ha : s.data.toList.all (okD base)
    · rfl
    · exact absurd (okS_iff.2 ⟨hb, h0, h1, ha⟩) (by rw [hok]; decide)

/-- The digits of a text in base 10; of what is no number none. -/
def numL (s : ByteArray) : List Nat := if okS s 10 then trimL (lsd s) else []
theorem numL_dg (s : ByteArray) : Dg 10 (numL s) := by
  unfold numL
  split
  · rename_i h; exact (lsd_dg (base := 10) h).trim
  · exact Dg.nil _
theorem numL_canon (s : ByteArray) : Canon (numL s) := by
  unfold numL
  split
  · exact canon_trim _
  · exact canon_nil
theorem numL_val (s : ByteArray) : val 10 (numL s) = num s := by
  unfold numL num
  split
  · exact val_trim _ _
  · rfl
theorem numL_len (s : ByteArray) : (numL s).length ≤ 5000 := by
  unfold numL
  split
  · rename_i h
    have h1 := trimLen_le (lsd s)
    rw [lsd_len] at h1
    have h2 := (okS_iff.1 h).2.2.1
    rw [trimL_len]
    omega
  · simp

end Go.Proofs.Ytpffegkckejpiaa
