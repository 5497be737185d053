/- DecimalInts' walk. -/
import Derived.Test.YtkhkgoimcbnpaaaIntsP
set_option linter.unusedVariables false
set_option linter.unusedSimpArgs false
namespace Go.Proofs.Ytkhkgoimcbnpaaa
open Go.RowKit

theorem res_cells2 {w W : World} {c0 c1 c2 c3 : Value} (hB : Below (w.heap.size + 1) (w.alloc (.cells #[c0, c1, c2, c3] 24)) W) :
    ∀ o1 o2, ((W.alloc o1).alloc o2).cell? ⟨w.heap.size, 0, none⟩ = some c0 ∧ ((W.alloc o1).alloc o2).cell? ⟨w.heap.size, 1, none⟩ = some c1 ∧ ((W.alloc o1).alloc o2).cell? ⟨w.heap.size, 2, none⟩ = some c2 ∧ ((W.alloc o1).alloc o2).cell? ⟨w.heap.size, 3, none⟩ = some c3 := by
  intro o1 o2
  obtain ⟨r0, r1, r2, r3, -⟩ := res_cells hB
  have hz : w.heap.size + 1 ≤ W.heap.size := by have := hB.size; rwa [size1] at this
  have hW : Below W.heap.size W ((W.alloc o1).alloc o2) := ((Below.refl _ W).alloc (Nat.le_refl _) _).alloc (by simp) _
  have hb : ∀ i, (⟨w.heap.size, i, none⟩ : Addr).block < W.heap.size := fun i => by show w.heap.size < _; omega
  exact ⟨(hW.cell (hb 0)).trans r0, (hW.cell (hb 1)).trans r1, (hW.cell (hb 2)).trans r2, (hW.cell (hb 3)).trans r3⟩

theorem asc_ints {s : ByteArray} {sg r : List UInt8} {b : Bool} (h : SgOf sg b) (hl : s.data.toList = sg ++ (r ++ [46, 48, 48, 48, 101, 48])) (hd : r.all isD = true) : asc s = true := by
  unfold asc
  rw [hl, List.all_append, List.all_append]
  have h1 : sg.all (fun c => decide (c.toNat < 128)) = true := by
    rcases h with ⟨rfl, rfl⟩ | ⟨rfl, rfl⟩ | ⟨rfl, rfl⟩ <;> decide
  have h2 : r.all (fun c => decide (c.toNat < 128)) = true := by
    rw [List.all_eq_true] at *
    intro c hc
    have := isD_iff.1 (hd c hc)
    simp
    omega
  rw [h1, h2]
  decide

set_option maxRecDepth 100000 in
set_option maxHeartbeats 1000000 in
theorem ints_neg (n : Int) (m zeros : Nat) (plus : Bool) (w : World) (hn : n < 0) (hM : -n = (m : Int)) (hlo : -1152921504606846976 ≤ n) (hhi : n ≤ 1152921504606846976) (hz : zeros ≤ 50) :
    Calls Try.prog 4 #[.int .i64 n, .int .i64 zeros, .bool plus] w fun e w' => e = .returned (.bool true) ∧ Below w.heap.size w w' := by
  have hsg : SgOf [45] true := by unfold SgOf; simp
  have hmx : (m : Int) ≤ 9223372036854775807 := by omega
  have hds := dec_size m (by omega)
  have hd0 := dec_some m
  have hmb : true = true → m ≠ 0 := by intro _ e; subst e; omega
  have DG := fun w => digits_any m w hmx
  have HDD : Hid (∀ z w, Calls Try.prog 12 #[.int .i64 ((m / 10 ^ z : Nat) : Int)] w fun e w' => e = .returned (.string (decB (m / 10 ^ z))) ∧ w' = w) := fun z w => digits_any (m / 10 ^ z) w (by have := Nat.div_le_self m (10 ^ z); omega)
  have hzl : ∀ z, z < Zn m → 0 < ((m / 10 ^ z : Nat) : Int) ∧ ((m / 10 ^ z : Nat) : Int) % 10 = 0 ∧ ((m / 10 ^ z : Nat) : Int) / 10 = ((m / 10 ^ (z + 1) : Nat) : Int) := by
    intro z hz
    have h := Zn_lt hz
    have e : m / 10 ^ (z + 1) = m / 10 ^ z / 10 := by rw [Nat.pow_succ, Nat.div_div_eq_div_mul]
    rw [e]
    generalize m / 10 ^ z = q at h ⊢
    omega
  have hze : ¬ (0 < ((m / 10 ^ Zn m : Nat) : Int)) ∨ (0 < ((m / 10 ^ Zn m : Nat) : Int) ∧ (((m / 10 ^ Zn m : Nat) : Int) % 10 == 0) = false) := by
    have h := Zn_end m
    generalize m / 10 ^ Zn m = q at h ⊢
    by_cases hq : 0 < q
    · right
      refine ⟨by omega, beq_false_of_ne ?_⟩
      rcases h with h | h <;> omega
    · left; omega
  have hqb : ∀ z, ((m / 10 ^ z : Nat) : Int) ≤ 9223372036854775807 := fun z => by have := Nat.div_le_self m (10 ^ z); omega
  have h0d : ((m / 10 ^ 0 : Nat) : Int) = -n := by rw [Nat.pow_zero, Nat.div_one]; exact hM.symm
  rw [← hM] at DG
  have HN : Hid (numV true m 0 = .agg #[.bool true, .string (decB (m / 10 ^ Zn m)), .int .i64 (Zn m), .int .i64 0]) := numV_Z true m
  have HV : Hid (valD (decB m).data.toList = m) := valD_dec m
  have HDg : Hid ((decB m).data.toList.all isD = true) := dec_isD m
  have HM0 : Hid (∀ z w, Calls Try.prog 12 #[.int .i64 ((m / 10 ^ z : Nat) : Int)] w fun e w' => e = .returned (.string (decB (m / 10 ^ z))) ∧ w' = w) := HDD
  have HZL : Hid (∀ z, z < Zn m → 0 < ((m / 10 ^ z : Nat) : Int) ∧ ((m / 10 ^ z : Nat) : Int) % 10 = 0 ∧ ((m / 10 ^ z : Nat) : Int) / 10 = ((m / 10 ^ (z + 1) : Nat) : Int)) := hzl
  have HZE : Hid (¬ (0 < ((m / 10 ^ Zn m : Nat) : Int)) ∨ (0 < ((m / 10 ^ Zn m : Nat) : Int) ∧ (((m / 10 ^ Zn m : Nat) : Int) % 10 == 0) = false)) := hze
  have HQB : Hid (∀ z, ((m / 10 ^ z : Nat) : Int) ≤ 9223372036854775807) := hqb
  have H0D : Hid (((m / 10 ^ 0 : Nat) : Int) = -n) := h0d
  have HMM : Hid (-n = (m : Int)) := hM
  have HMB : Hid (m ≠ 0) := hmb rfl
  have hZb : Zn m ≤ 64 := by
    unfold Zn
    split
    · omega
    · rename_i hm0
      have := tz_lt (n := m) (by omega)
      rw [dec_sz, dl_pos (by omega)] at hds
      omega
  have HMX : Hid ((m : Int) ≤ 9223372036854775807) := hmx
  clear hzl hze hqb h0d HDD hM hmb hmx
  have hz0 : ¬ (zeros : Int) < 0 := by omega
  have hz1 : ¬ (50 : Int) < (zeros : Int) := by omega
  have hl1 : ¬ n < -1152921504606846976 := by omega
  have hl2 : ¬ (1152921504606846976 : Int) < n := by omega
  go_enter Try.func4, Try.ntmps4
  go_wp2_with fail
  refine (alive_any _).mono ?_
  rintro e w1 ⟨rfl, hB1⟩
  go_wp2
  go_loop [9, 10] (fun v u => ∃ (k : Nat) (x : ByteArray), k ≤ zeros ∧ v = .string x ∧ u = .int .i64 k ∧ x.size = 1 + k ∧ Hid (x.data.toList = [45] ++ List.replicate k 48)) (fun _ u => zeros - (intOf u).toNat)
  case atStart => exact ⟨0, _, Nat.zero_le _, rfl, rfl, rfl, rfl⟩
  case round =>
    obtain ⟨k, x, hk, rfl, rfl, hxs, HX⟩ := hrel
    by_cases hlt : k < zeros
    · have hl : (k : Int) < zeros := by omega
      have A := fun w => run_string_add_sum (P := Try.prog) w x ⟨#[48]⟩ (by show x.size + 1 ≤ _; omega)
      have HX2 : Hid ((x ++ ⟨#[48]⟩).data.toList = [45] ++ List.replicate (k + 1) 48) := by
        show _ = _
        rw [app_list, HX.out, List.replicate_succ', List.append_assoc]
      have hs2 : (x ++ (⟨#[48]⟩ : ByteArray)).size = 1 + (k + 1) := by
        rw [ByteArray.size_append, hxs]; rfl
      generalize x ++ (⟨#[48]⟩ : ByteArray) = y at A HX2 hs2
      go_wp2
      go_round
      case rel => exact ⟨k + 1, y, by omega, rfl, by go_num, hs2, HX2⟩
      case measure => simp [intOf] <;> omega
    · obtain rfl : k = zeros := by omega
      have A1 := fun w => run_string_add_sum (P := Try.prog) w x (decB m) (by omega)
      have A2 := fun w => run_string_add_sum (P := Try.prog) w (x ++ decB m) ⟨#[46, 48, 48, 48, 101, 48]⟩ (by rw [ByteArray.size_append]; show x.size + (decB m).size + 6 ≤ _; omega)
      have hr : (List.replicate k 48 ++ (decB m).data.toList).all isD = true := by rw [List.all_append, zeros_isD, HDg.out]; rfl
      have hrl : (List.replicate k (48 : UInt8) ++ (decB m).data.toList).length = k + (decB m).size := by rw [List.length_append, List.length_replicate, ← Lib.size_eq]
      have hv : valD (List.replicate k 48 ++ (decB m).data.toList) = m := by rw [valD_zeros]; exact HV.out
      have e0 : (x ++ decB m).data.toList = [45] ++ (List.replicate k 48 ++ (decB m).data.toList) := by rw [app_list, HX.out, List.append_assoc]
      have e1 : (x ++ decB m ++ ⟨#[46, 48, 48, 48, 101, 48]⟩).data.toList = [45] ++ ((List.replicate k 48 ++ (decB m).data.toList) ++ [46, 48, 48, 48, 101, 48]) := by rw [app_list, e0, List.append_assoc]
      have V1 := int_digits hsg e0 hr (by omega) (by omega) (by rw [hv]; exact fun _ => HMB.out)
      have V2 := float_ints hsg e1 hr (by omega) (by omega)
      rw [hv, HN.out] at V1 V2
      have hsz : (x ++ decB m ++ (⟨#[46, 48, 48, 48, 101, 48]⟩ : ByteArray)).size ≤ 100000 := by rw [ByteArray.size_append, ByteArray.size_append]; show x.size + (decB m).size + 6 ≤ _; omega
      have hasc : 8 < (restB (x ++ decB m ++ ⟨#[46, 48, 48, 48, 101, 48]⟩)).size ∨ asc (x ++ decB m ++ ⟨#[46, 48, 48, 48, 101, 48]⟩) = true := .inr (asc_ints hsg e1 hr)
      have IN := fun w => Int_any (x ++ decB m) w
      have FL := fun w => Float_plain (x ++ decB m ++ ⟨#[46, 48, 48, 48, 101, 48]⟩) w hsz hasc
      rw [V1] at IN
      rw [V2] at FL
      have GD := fun w => HM0.out (Zn m) w
      clear V1 V2 hv hr hrl e0 e1 hsz hasc HX hds hd0
      generalize x ++ decB m = s0 at A1 A2 IN FL
      generalize s0 ++ (⟨#[46, 48, 48, 48, 101, 48]⟩ : ByteArray) = s1 at A2 FL
      generalize decB (m / 10 ^ Zn m) = DD at IN FL GD
      obtain ⟨Z, hZ⟩ : ∃ Z, Zn m = Z := ⟨_, rfl⟩
      rw [hZ] at IN FL GD HZE HZL hZb
      clear hZ
      go_wp2_with fail
      refine (DG _).mono ?_
      rintro e w1 ⟨rfl, rfl⟩
      go_wp2_with fail
      refine (IN _).mono ?_
      rintro e w2 ⟨rfl, hB2⟩
      have hw2 : Below w.heap.size w w2 := hB1.trans (hB2.mono hB1.size)
      clear hB2 IN
      go_wp2
      go_loop [8, 14] (fun v u => ∃ (z : Nat) (q : Int), z ≤ Z ∧ v = .int .i64 q ∧ u = .int .i64 z ∧ Hid (q = ((m / 10 ^ z : Nat) : Int))) (fun _ u => Z - (intOf u).toNat)
      case atStart => exact ⟨0, _, Nat.zero_le _, rfl, rfl, H0D.out.symm⟩
      case round =>
        obtain ⟨z, q, hzz, rfl, rfl, HQ⟩ := hrel
        by_cases hlt2 : z < Z
        · have h3 := HZL.out z hlt2
          have hb3 := HQB.out z
          rw [← HQ.out] at h3 hb3
          have g1 := h3.1
          have g2 := h3.2.1
          have HQ2 : Hid (q / 10 = ((m / 10 ^ (z + 1) : Nat) : Int)) := h3.2.2
          have g0 : 0 ≤ q := by omega
          clear h3 HQ
          go_wp2
          go_round
          case rel => exact ⟨z + 1, q / 10, by omega, by go_num, by go_num, HQ2⟩
          case measure => simp [intOf] <;> omega
        · obtain rfl : z = Z := by omega
          have h3 := HZE.out
          have hb3 := HQB.out z
          rw [← HQ.out] at h3 GD hb3
          have g0 : 0 ≤ q := by rw [HQ.out]; exact Int.natCast_nonneg _
          clear HQ
          rcases h3 with g1 | ⟨g1, g2⟩
          all_goals
            go_wp2_with fail
            refine (FL _).mono ?_
            rintro e w4 ⟨rfl, hB4⟩
            rw [size1] at hB4
            have hw4 : Below w.heap.size w w4 := (hw2.alloc hw2.size _).trans (hB4.mono (by have := hw2.size; omega))
            have R := res_cells2 hB4
            have R0 := fun o1 o2 => (R o1 o2).1
            have R1 := fun o1 o2 => (R o1 o2).2.1
            have R2 := fun o1 o2 => (R o1 o2).2.2.1
            have R3 := fun o1 o2 => (R o1 o2).2.2.2
            clear hB4 R FL
            go_wp2_with fail
            refine (GD _).mono ?_
            rintro e w5 ⟨rfl, rfl⟩
            go_wp2
            go_ret
            exact ⟨rfl, (hw4.alloc hw4.size _).alloc (by have := hw4.size; simp; omega) _⟩

set_option maxRecDepth 100000 in
set_option maxHeartbeats 1000000 in
theorem ints_plus (n : Int) (m zeros : Nat) (plus : Bool) (w : World) (hn : ¬ n < 0) (hp : plus = true) (hM : n = (m : Int)) (hlo : -1152921504606846976 ≤ n) (hhi : n ≤ 1152921504606846976) (hz : zeros ≤ 50) :
    Calls Try.prog 4 #[.int .i64 n, .int .i64 zeros, .bool plus] w fun e w' => e = .returned (.bool true) ∧ Below w.heap.size w w' := by
  have hsg : SgOf [43] false := by unfold SgOf; simp
  have hmx : (m : Int) ≤ 9223372036854775807 := by omega
  have hds := dec_size m (by omega)
  have hd0 := dec_some m
  have hmb : false = true → m ≠ 0 := by intro e; cases e
  have DG := fun w => digits_any m w hmx
  have HDD : Hid (∀ z w, Calls Try.prog 12 #[.int .i64 ((m / 10 ^ z : Nat) : Int)] w fun e w' => e = .returned (.string (decB (m / 10 ^ z))) ∧ w' = w) := fun z w => digits_any (m / 10 ^ z) w (by have := Nat.div_le_self m (10 ^ z); omega)
  have hzl : ∀ z, z < Zn m → 0 < ((m / 10 ^ z : Nat) : Int) ∧ ((m / 10 ^ z : Nat) : Int) % 10 = 0 ∧ ((m / 10 ^ z : Nat) : Int) / 10 = ((m / 10 ^ (z + 1) : Nat) : Int) := by
    intro z hz
    have h := Zn_lt hz
    have e : m / 10 ^ (z + 1) = m / 10 ^ z / 10 := by rw [Nat.pow_succ, Nat.div_div_eq_div_mul]
    rw [e]
    generalize m / 10 ^ z = q at h ⊢
    omega
  have hze : ¬ (0 < ((m / 10 ^ Zn m : Nat) : Int)) ∨ (0 < ((m / 10 ^ Zn m : Nat) : Int) ∧ (((m / 10 ^ Zn m : Nat) : Int) % 10 == 0) = false) := by
    have h := Zn_end m
    generalize m / 10 ^ Zn m = q at h ⊢
    by_cases hq : 0 < q
    · right
      refine ⟨by omega, beq_false_of_ne ?_⟩
      rcases h with h | h <;> omega
    · left; omega
  have hqb : ∀ z, ((m / 10 ^ z : Nat) : Int) ≤ 9223372036854775807 := fun z => by have := Nat.div_le_self m (10 ^ z); omega
  have h0d : ((m / 10 ^ 0 : Nat) : Int) = n := by rw [Nat.pow_zero, Nat.div_one]; exact hM.symm
  rw [← hM] at DG
  have HN : Hid (numV false m 0 = .agg #[.bool false, .string (decB (m / 10 ^ Zn m)), .int .i64 (Zn m), .int .i64 0]) := numV_Z false m
  have HV : Hid (valD (decB m).data.toList = m) := valD_dec m
  have HDg : Hid ((decB m).data.toList.all isD = true) := dec_isD m
  have HM0 : Hid (∀ z w, Calls Try.prog 12 #[.int .i64 ((m / 10 ^ z : Nat) : Int)] w fun e w' => e = .returned (.string (decB (m / 10 ^ z))) ∧ w' = w) := HDD
  have HZL : Hid (∀ z, z < Zn m → 0 < ((m / 10 ^ z : Nat) : Int) ∧ ((m / 10 ^ z : Nat) : Int) % 10 = 0 ∧ ((m / 10 ^ z : Nat) : Int) / 10 = ((m / 10 ^ (z + 1) : Nat) : Int)) := hzl
  have HZE : Hid (¬ (0 < ((m / 10 ^ Zn m : Nat) : Int)) ∨ (0 < ((m / 10 ^ Zn m : Nat) : Int) ∧ (((m / 10 ^ Zn m : Nat) : Int) % 10 == 0) = false)) := hze
  have HQB : Hid (∀ z, ((m / 10 ^ z : Nat) : Int) ≤ 9223372036854775807) := hqb
  have H0D : Hid (((m / 10 ^ 0 : Nat) : Int) = n) := h0d
  have HMM : Hid (n = (m : Int)) := hM

  have hZb : Zn m ≤ 64 := by
    unfold Zn
    split
    · omega
    · rename_i hm0
      have := tz_lt (n := m) (by omega)
      rw [dec_sz, dl_pos (by omega)] at hds
      omega
  have HMX : Hid ((m : Int) ≤ 9223372036854775807) := hmx
  clear hzl hze hqb h0d HDD hM hmb hmx
  have hz0 : ¬ (zeros : Int) < 0 := by omega
  have hz1 : ¬ (50 : Int) < (zeros : Int) := by omega
  have hl1 : ¬ n < -1152921504606846976 := by omega
  have hl2 : ¬ (1152921504606846976 : Int) < n := by omega
  go_enter Try.func4, Try.ntmps4
  go_wp2_with fail
  refine (alive_any _).mono ?_
  rintro e w1 ⟨rfl, hB1⟩
  go_wp2
  go_loop [9, 10] (fun v u => ∃ (k : Nat) (x : ByteArray), k ≤ zeros ∧ v = .string x ∧ u = .int .i64 k ∧ x.size = 1 + k ∧ Hid (x.data.toList = [43] ++ List.replicate k 48)) (fun _ u => zeros - (intOf u).toNat)
  case atStart => exact ⟨0, _, Nat.zero_le _, rfl, rfl, rfl, rfl⟩
  case round =>
    obtain ⟨k, x, hk, rfl, rfl, hxs, HX⟩ := hrel
    by_cases hlt : k < zeros
    · have hl : (k : Int) < zeros := by omega
      have A := fun w => run_string_add_sum (P := Try.prog) w x ⟨#[48]⟩ (by show x.size + 1 ≤ _; omega)
      have HX2 : Hid ((x ++ ⟨#[48]⟩).data.toList = [43] ++ List.replicate (k + 1) 48) := by
        show _ = _
        rw [app_list, HX.out, List.replicate_succ', List.append_assoc]
      have hs2 : (x ++ (⟨#[48]⟩ : ByteArray)).size = 1 + (k + 1) := by
        rw [ByteArray.size_append, hxs]; rfl
      generalize x ++ (⟨#[48]⟩ : ByteArray) = y at A HX2 hs2
      go_wp2
      go_round
      case rel => exact ⟨k + 1, y, by omega, rfl, by go_num, hs2, HX2⟩
      case measure => simp [intOf] <;> omega
    · obtain rfl : k = zeros := by omega
      have A1 := fun w => run_string_add_sum (P := Try.prog) w x (decB m) (by omega)
      have A2 := fun w => run_string_add_sum (P := Try.prog) w (x ++ decB m) ⟨#[46, 48, 48, 48, 101, 48]⟩ (by rw [ByteArray.size_append]; show x.size + (decB m).size + 6 ≤ _; omega)
      have hr : (List.replicate k 48 ++ (decB m).data.toList).all isD = true := by rw [List.all_append, zeros_isD, HDg.out]; rfl
      have hrl : (List.replicate k (48 : UInt8) ++ (decB m).data.toList).length = k + (decB m).size := by rw [List.length_append, List.length_replicate, ← Lib.size_eq]
      have hv : valD (List.replicate k 48 ++ (decB m).data.toList) = m := by rw [valD_zeros]; exact HV.out
      have e0 : (x ++ decB m).data.toList = [43] ++ (List.replicate k 48 ++ (decB m).data.toList) := by rw [app_list, HX.out, List.append_assoc]
      have e1 : (x ++ decB m ++ ⟨#[46, 48, 48, 48, 101, 48]⟩).data.toList = [43] ++ ((List.replicate k 48 ++ (decB m).data.toList) ++ [46, 48, 48, 48, 101, 48]) := by rw [app_list, e0, List.append_assoc]
      have V1 := int_digits hsg e0 hr (by omega) (by omega) (fun e => by cases e)
      have V2 := float_ints hsg e1 hr (by omega) (by omega)
      rw [hv, HN.out] at V1 V2
      have hsz : (x ++ decB m ++ (⟨#[46, 48, 48, 48, 101, 48]⟩ : ByteArray)).size ≤ 100000 := by rw [ByteArray.size_append, ByteArray.size_append]; show x.size + (decB m).size + 6 ≤ _; omega
      have hasc : 8 < (restB (x ++ decB m ++ ⟨#[46, 48, 48, 48, 101, 48]⟩)).size ∨ asc (x ++ decB m ++ ⟨#[46, 48, 48, 48, 101, 48]⟩) = true := .inr (asc_ints hsg e1 hr)
      have IN := fun w => Int_any (x ++ decB m) w
      have FL := fun w => Float_plain (x ++ decB m ++ ⟨#[46, 48, 48, 48, 101, 48]⟩) w hsz hasc
      rw [V1] at IN
      rw [V2] at FL
      have GD := fun w => HM0.out (Zn m) w
      clear V1 V2 hv hr hrl e0 e1 hsz hasc HX hds hd0
      generalize x ++ decB m = s0 at A1 A2 IN FL
      generalize s0 ++ (⟨#[46, 48, 48, 48, 101, 48]⟩ : ByteArray) = s1 at A2 FL
      generalize decB (m / 10 ^ Zn m) = DD at IN FL GD
      obtain ⟨Z, hZ⟩ : ∃ Z, Zn m = Z := ⟨_, rfl⟩
      rw [hZ] at IN FL GD HZE HZL hZb
      clear hZ
      go_wp2_with fail
      refine (DG _).mono ?_
      rintro e w1 ⟨rfl, rfl⟩
      go_wp2_with fail
      refine (IN _).mono ?_
      rintro e w2 ⟨rfl, hB2⟩
      have hw2 : Below w.heap.size w w2 := hB1.trans (hB2.mono hB1.size)
      clear hB2 IN
      go_wp2
      go_loop [8, 14] (fun v u => ∃ (z : Nat) (q : Int), z ≤ Z ∧ v = .int .i64 q ∧ u = .int .i64 z ∧ Hid (q = ((m / 10 ^ z : Nat) : Int))) (fun _ u => Z - (intOf u).toNat)
      case atStart => exact ⟨0, _, Nat.zero_le _, rfl, rfl, H0D.out.symm⟩
      case round =>
        obtain ⟨z, q, hzz, rfl, rfl, HQ⟩ := hrel
        by_cases hlt2 : z < Z
        · have h3 := HZL.out z hlt2
          have hb3 := HQB.out z
          rw [← HQ.out] at h3 hb3
          have g1 := h3.1
          have g2 := h3.2.1
          have HQ2 : Hid (q / 10 = ((m / 10 ^ (z + 1) : Nat) : Int)) := h3.2.2
          have g0 : 0 ≤ q := by omega
          clear h3 HQ
          go_wp2
          go_round
          case rel => exact ⟨z + 1, q / 10, by omega, by go_num, by go_num, HQ2⟩
          case measure => simp [intOf] <;> omega
        · obtain rfl : z = Z := by omega
          have h3 := HZE.out
          have hb3 := HQB.out z
          rw [← HQ.out] at h3 GD hb3
          have g0 : 0 ≤ q := by rw [HQ.out]; exact Int.natCast_nonneg _
          clear HQ
          rcases h3 with g1 | ⟨g1, g2⟩
          all_goals
            go_wp2_with fail
            refine (FL _).mono ?_
            rintro e w4 ⟨rfl, hB4⟩
            rw [size1] at hB4
            have hw4 : Below w.heap.size w w4 := (hw2.alloc hw2.size _).trans (hB4.mono (by have := hw2.size; omega))
            have R := res_cells2 hB4
            have R0 := fun o1 o2 => (R o1 o2).1
            have R1 := fun o1 o2 => (R o1 o2).2.1
            have R2 := fun o1 o2 => (R o1 o2).2.2.1
            have R3 := fun o1 o2 => (R o1 o2).2.2.2
            clear hB4 R FL
            go_wp2_with fail
            refine (GD _).mono ?_
            rintro e w5 ⟨rfl, rfl⟩
            go_wp2
            go_ret
            exact ⟨rfl, (hw4.alloc hw4.size _).alloc (by have := hw4.size; simp; omega) _⟩

set_option maxRecDepth 100000 in
set_option maxHeartbeats 1000000 in
theorem ints_bare (n : Int) (m zeros : Nat) (plus : Bool) (w : World) (hn : ¬ n < 0) (hp : plus = false) (hM : n = (m : Int)) (hlo : -1152921504606846976 ≤ n) (hhi : n ≤ 1152921504606846976) (hz : zeros ≤ 50) :
    Calls Try.prog 4 #[.int .i64 n, .int .i64 zeros, .bool plus] w fun e w' => e = .returned (.bool true) ∧ Below w.heap.size w w' := by
  have hsg : SgOf [] false := by unfold SgOf; simp
  have hmx : (m : Int) ≤ 9223372036854775807 := by omega
  have hds := dec_size m (by omega)
  have hd0 := dec_some m
  have hmb : false = true → m ≠ 0 := by intro e; cases e
  have DG := fun w => digits_any m w hmx
  have HDD : Hid (∀ z w, Calls Try.prog 12 #[.int .i64 ((m / 10 ^ z : Nat) : Int)] w fun e w' => e = .returned (.string (decB (m / 10 ^ z))) ∧ w' = w) := fun z w => digits_any (m / 10 ^ z) w (by have := Nat.div_le_self m (10 ^ z); omega)
  have hzl : ∀ z, z < Zn m → 0 < ((m / 10 ^ z : Nat) : Int) ∧ ((m / 10 ^ z : Nat) : Int) % 10 = 0 ∧ ((m / 10 ^ z : Nat) : Int) / 10 = ((m / 10 ^ (z + 1) : Nat) : Int) := by
    intro z hz
    have h := Zn_lt hz
    have e : m / 10 ^ (z + 1) = m / 10 ^ z / 10 := by rw [Nat.pow_succ, Nat.div_div_eq_div_mul]
    rw [e]
    generalize m / 10 ^ z = q at h ⊢
    omega
  have hze : ¬ (0 < ((m / 10 ^ Zn m : Nat) : Int)) ∨ (0 < ((m / 10 ^ Zn m : Nat) : Int) ∧ (((m / 10 ^ Zn m : Nat) : Int) % 10 == 0) = false) := by
    have h := Zn_end m
    generalize m / 10 ^ Zn m = q at h ⊢
    by_cases hq : 0 < q
    · right
      refine ⟨by omega, beq_false_of_ne ?_⟩
      rcases h with h | h <;> omega
    · left; omega
  have hqb : ∀ z, ((m / 10 ^ z : Nat) : Int) ≤ 9223372036854775807 := fun z => by have := Nat.div_le_self m (10 ^ z); omega
  have h0d : ((m / 10 ^ 0 : Nat) : Int) = n := by rw [Nat.pow_zero, Nat.div_one]; exact hM.symm
  rw [← hM] at DG
  have HN : Hid (numV false m 0 = .agg #[.bool false, .string (decB (m / 10 ^ Zn m)), .int .i64 (Zn m), .int .i64 0]) := numV_Z false m
  have HV : Hid (valD (decB m).data.toList = m) := valD_dec m
  have HDg : Hid ((decB m).data.toList.all isD = true) := dec_isD m
  have HM0 : Hid (∀ z w, Calls Try.prog 12 #[.int .i64 ((m / 10 ^ z : Nat) : Int)] w fun e w' => e = .returned (.string (decB (m / 10 ^ z))) ∧ w' = w) := HDD
  have HZL : Hid (∀ z, z < Zn m → 0 < ((m / 10 ^ z : Nat) : Int) ∧ ((m / 10 ^ z : Nat) : Int) % 10 = 0 ∧ ((m / 10 ^ z : Nat) : Int) / 10 = ((m / 10 ^ (z + 1) : Nat) : Int)) := hzl
  have HZE : Hid (¬ (0 < ((m / 10 ^ Zn m : Nat) : Int)) ∨ (0 < ((m / 10 ^ Zn m : Nat) : Int) ∧ (((m / 10 ^ Zn m : Nat) : Int) % 10 == 0) = false)) := hze
  have HQB : Hid (∀ z, ((m / 10 ^ z : Nat) : Int) ≤ 9223372036854775807) := hqb
  have H0D : Hid (((m / 10 ^ 0 : Nat) : Int) = n) := h0d
  have HMM : Hid (n = (m : Int)) := hM

  have hZb : Zn m ≤ 64 := by
    unfold Zn
    split
    · omega
    · rename_i hm0
      have := tz_lt (n := m) (by omega)
      rw [dec_sz, dl_pos (by omega)] at hds
      omega
  have HMX : Hid ((m : Int) ≤ 9223372036854775807) := hmx
  clear hzl hze hqb h0d HDD hM hmb hmx
  have hz0 : ¬ (zeros : Int) < 0 := by omega
  have hz1 : ¬ (50 : Int) < (zeros : Int) := by omega
  have hl1 : ¬ n < -1152921504606846976 := by omega
  have hl2 : ¬ (1152921504606846976 : Int) < n := by omega
  go_enter Try.func4, Try.ntmps4
  go_wp2_with fail
  refine (alive_any _).mono ?_
  rintro e w1 ⟨rfl, hB1⟩
  go_wp2
  go_loop [9, 10] (fun v u => ∃ (k : Nat) (x : ByteArray), k ≤ zeros ∧ v = .string x ∧ u = .int .i64 k ∧ x.size = 0 + k ∧ Hid (x.data.toList = [] ++ List.replicate k 48)) (fun _ u => zeros - (intOf u).toNat)
  case atStart => exact ⟨0, _, Nat.zero_le _, rfl, rfl, rfl, rfl⟩
  case round =>
    obtain ⟨k, x, hk, rfl, rfl, hxs, HX⟩ := hrel
    by_cases hlt : k < zeros
    · have hl : (k : Int) < zeros := by omega
      have A := fun w => run_string_add_sum (P := Try.prog) w x ⟨#[48]⟩ (by show x.size + 1 ≤ _; omega)
      have HX2 : Hid ((x ++ ⟨#[48]⟩).data.toList = [] ++ List.replicate (k + 1) 48) := by
        show _ = _
        rw [app_list, HX.out, List.replicate_succ', List.append_assoc]
      have hs2 : (x ++ (⟨#[48]⟩ : ByteArray)).size = 0 + (k + 1) := by
        rw [ByteArray.size_append, hxs]; rfl
      generalize x ++ (⟨#[48]⟩ : ByteArray) = y at A HX2 hs2
      go_wp2
      go_round
      case rel => exact ⟨k + 1, y, by omega, rfl, by go_num, hs2, HX2⟩
      case measure => simp [intOf] <;> omega
    · obtain rfl : k = zeros := by omega
      have A1 := fun w => run_string_add_sum (P := Try.prog) w x (decB m) (by omega)
      have A2 := fun w => run_string_add_sum (P := Try.prog) w (x ++ decB m) ⟨#[46, 48, 48, 48, 101, 48]⟩ (by rw [ByteArray.size_append]; show x.size + (decB m).size + 6 ≤ _; omega)
      have hr : (List.replicate k 48 ++ (decB m).data.toList).all isD = true := by rw [List.all_append, zeros_isD, HDg.out]; rfl
      have hrl : (List.replicate k (48 : UInt8) ++ (decB m).data.toList).length = k + (decB m).size := by rw [List.length_append, List.length_replicate, ← Lib.size_eq]
      have hv : valD (List.replicate k 48 ++ (decB m).data.toList) = m := by rw [valD_zeros]; exact HV.out
      have e0 : (x ++ decB m).data.toList = [] ++ (List.replicate k 48 ++ (decB m).data.toList) := by rw [app_list, HX.out, List.append_assoc]
      have e1 : (x ++ decB m ++ ⟨#[46, 48, 48, 48, 101, 48]⟩).data.toList = [] ++ ((List.replicate k 48 ++ (decB m).data.toList) ++ [46, 48, 48, 48, 101, 48]) := by rw [app_list, e0, List.append_assoc]
      have V1 := int_digits hsg e0 hr (by omega) (by omega) (fun e => by cases e)
      have V2 := float_ints hsg e1 hr (by omega) (by omega)
      rw [hv, HN.out] at V1 V2
      have hsz : (x ++ decB m ++ (⟨#[46, 48, 48, 48, 101, 48]⟩ : ByteArray)).size ≤ 100000 := by rw [ByteArray.size_append, ByteArray.size_append]; show x.size + (decB m).size + 6 ≤ _; omega
      have hasc : 8 < (restB (x ++ decB m ++ ⟨#[46, 48, 48, 48, 101, 48]⟩)).size ∨ asc (x ++ decB m ++ ⟨#[46, 48, 48, 48, 101, 48]⟩) = true := .inr (asc_ints hsg e1 hr)
      have IN := fun w => Int_any (x ++ decB m) w
      have FL := fun w => Float_plain (x ++ decB m ++ ⟨#[46, 48, 48, 48, 101, 48]⟩) w hsz hasc
      rw [V1] at IN
      rw [V2] at FL
      have GD := fun w => HM0.out (Zn m) w
      clear V1 V2 hv hr hrl e0 e1 hsz hasc HX hds hd0
      generalize x ++ decB m = s0 at A1 A2 IN FL
      generalize s0 ++ (⟨#[46, 48, 48, 48, 101, 48]⟩ : ByteArray) = s1 at A2 FL
      generalize decB (m / 10 ^ Zn m) = DD at IN FL GD
      obtain ⟨Z, hZ⟩ : ∃ Z, Zn m = Z := ⟨_, rfl⟩
      rw [hZ] at IN FL GD HZE HZL hZb
      clear hZ
      go_wp2_with fail
      refine (DG _).mono ?_
      rintro e w1 ⟨rfl, rfl⟩
      go_wp2_with fail
      refine (IN _).mono ?_
      rintro e w2 ⟨rfl, hB2⟩
      have hw2 : Below w.heap.size w w2 := hB1.trans (hB2.mono hB1.size)
      clear hB2 IN
      go_wp2
      go_loop [8, 14] (fun v u => ∃ (z : Nat) (q : Int), z ≤ Z ∧ v = .int .i64 q ∧ u = .int .i64 z ∧ Hid (q = ((m / 10 ^ z : Nat) : Int))) (fun _ u => Z - (intOf u).toNat)
      case atStart => exact ⟨0, _, Nat.zero_le _, rfl, rfl, H0D.out.symm⟩
      case round =>
        obtain ⟨z, q, hzz, rfl, rfl, HQ⟩ := hrel
        by_cases hlt2 : z < Z
        · have h3 := HZL.out z hlt2
          have hb3 := HQB.out z
          rw [← HQ.out] at h3 hb3
          have g1 := h3.1
          have g2 := h3.2.1
          have HQ2 : Hid (q / 10 = ((m / 10 ^ (z + 1) : Nat) : Int)) := h3.2.2
          have g0 : 0 ≤ q := by omega
          clear h3 HQ
          go_wp2
          go_round
          case rel => exact ⟨z + 1, q / 10, by omega, by go_num, by go_num, HQ2⟩
          case measure => simp [intOf] <;> omega
        · obtain rfl : z = Z := by omega
          have h3 := HZE.out
          have hb3 := HQB.out z
          rw [← HQ.out] at h3 GD hb3
          have g0 : 0 ≤ q := by rw [HQ.out]; exact Int.natCast_nonneg _
          clear HQ
          rcases h3 with g1 | ⟨g1, g2⟩
          all_goals
            go_wp2_with fail
            refine (FL _).mono ?_
            rintro e w4 ⟨rfl, hB4⟩
            rw [size1] at hB4
            have hw4 : Below w.heap.size w w4 := (hw2.alloc hw2.size _).trans (hB4.mono (by have := hw2.size; omega))
            have R := res_cells2 hB4
            have R0 := fun o1 o2 => (R o1 o2).1
            have R1 := fun o1 o2 => (R o1 o2).2.1
            have R2 := fun o1 o2 => (R o1 o2).2.2.1
            have R3 := fun o1 o2 => (R o1 o2).2.2.2
            clear hB4 R FL
            go_wp2_with fail
            refine (GD _).mono ?_
            rintro e w5 ⟨rfl, rfl⟩
            go_wp2
            go_ret
            exact ⟨rfl, (hw4.alloc hw4.size _).alloc (by have := hw4.size; simp; omega) _⟩

end Go.Proofs.Ytkhkgoimcbnpaaa
