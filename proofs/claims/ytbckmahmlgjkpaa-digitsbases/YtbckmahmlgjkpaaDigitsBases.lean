/- For all numbers n and zeros: DigitsBases answers true: one number is one, in whichever base it is written, and whatever noughts stand ahead. No condition. -/
import Derived.Test.YtbckmahmlgjkpaaBasesP
set_option linter.unusedVariables false
set_option linter.unusedSimpArgs false
namespace Go.Proofs.Ytbckmahmlgjkpaa.digitsBases
open Go.ChangeShapes Go.WideShapes Go.ChangeAt Go.RowKit Go.Shelf

set_option maxRecDepth 100000 in
set_option maxHeartbeats 2000000 in
theorem far (n z : Int) (w : World) (h : n < 0 ∨ (¬ n < 0 ∧ z < 0) ∨ (¬ n < 0 ∧ ¬ z < 0 ∧ 50 < z)) :
    Calls Try.prog 7 #[.int .i64 n, .int .i64 z] w fun e w' => e = .returned (.bool true) ∧ Below w.heap.size w w' := by
  rcases h with h0 | ⟨h0, h1⟩ | ⟨h0, h1, h2⟩
  all_goals
    go_enter Try.func7, Try.ntmps7
    go_wp2_with (first | (go_at_call 8; refine (alive_any _).mono ?_; rintro e W ⟨rfl, hB⟩))
    go_ret
    exact ⟨rfl, hB⟩

/-- The three bases, as they are laid. -/
theorem bases_row (W : World) : (W.alloc (.cells #[.int .i64 8, .int .i64 10, .int .i64 16] 3)).cell? ⟨W.heap.size, 0, none⟩ = some (.int .i64 8) ∧ (W.alloc (.cells #[.int .i64 8, .int .i64 10, .int .i64 16] 3)).cell? ⟨W.heap.size, 1, none⟩ = some (.int .i64 10) ∧ (W.alloc (.cells #[.int .i64 8, .int .i64 10, .int .i64 16] 3)).cell? ⟨W.heap.size, 2, none⟩ = some (.int .i64 16) := by
  have h := cells_new W [.int .i64 8, .int .i64 10, .int .i64 16] 3
  have h0 := h 0 _ rfl
  have h1 := h 1 _ rfl
  have h2 := h 2 _ rfl
  rw [add_plain] at h0 h1 h2
  exact ⟨h0, h1, h2⟩

set_option maxRecDepth 100000 in
set_option maxHeartbeats 2000000 in
theorem near (n z : Nat) (w : World) (hn : n ≤ 9223372036854775807) (hz : z ≤ 50) :
    Calls Try.prog 7 #[.int .i64 n, .int .i64 z] w fun e w' => e = .returned (.bool true) ∧ Below w.heap.size w w' := by
  have DN := fun w => digits_any n w (by omega)
  have hnI : (n : Int) ≤ 9223372036854775807 := by omega
  go_enter Try.func7, Try.ntmps7
  go_wp2_with (first | (go_at_call 8; refine (alive_any _).mono ?_; rintro e W ⟨rfl, hB⟩) | fail)
  obtain ⟨hc0, hc1, hc2⟩ := bases_row W
  have hBF := hB.alloc hB.size (.cells #[.int .i64 8, .int .i64 10, .int .i64 16] 3)
  have hW1 : W.heap.size < (W.alloc (.cells #[.int .i64 8, .int .i64 10, .int .i64 16] 3)).heap.size := by simp
  generalize W.alloc (.cells #[.int .i64 8, .int .i64 10, .int .i64 16] 3) = W1 at hc0 hc1 hc2 hBF hW1 ⊢
  go_loopw [7] (fun iv wr => ∃ (i : Nat), i ≤ 3 ∧ iv = .int .i64 i ∧ Below W1.heap.size W1 wr) (fun iv _ => 3 - (intOf iv).toNat)
  case atStart => exact ⟨0, by omega, rfl, Below.refl _ _⟩
  case round =>
    obtain ⟨i, hi, rfl, hBw⟩ := hrel
    have h4 : i = 0 ∨ i = 1 ∨ i = 2 ∨ i = 3 := by omega
    rcases h4 with rfl | rfl | rfl | rfl
    · have c0 := (hBw.cell (p := ⟨W.heap.size, 0, none⟩) hW1).trans hc0
      clear hc0 hc1 hc2
      go_wp2
      go_loop [8, 9] (fun sv kv => ∃ (k : Nat) (ds : List Nat), kv = .int .i64 k ∧ sv = .string (sB ds) ∧ k ≤ n ∧ Hid (Bst 8 n ds k)) (fun sv kv => (intOf kv).toNat + sEmp sv)
      case atStart => exact ⟨n, [], rfl, rfl, Nat.le_refl _, Bst.start 8 n (by omega)⟩
      case round =>
        obtain ⟨k, ds, rfl, rfl, hkn, HK⟩ := hrel
        have hki : (k : Int) ≤ 9223372036854775807 := by omega
        have E := one_hex (k % 8) (by omega)
        have hdl := HK.out.len
        have A := run_string_add_sum (P := Try.prog) wr ⟨#[chr (k % 8)]⟩ (sB ds) (by rw [sB_size, one_size]; omega)
        rw [← sB_snoc] at A
        have hM : sEmp (.string (sB (ds ++ [k % 8]))) = 0 := sEmp_snoc _ _
        by_cases h1 : 0 < k
        · have HK3 : Hid (Bst 8 n (ds ++ [k % 8]) (k / 8)) := HK.out.step (by decide) (.inl h1)
          have h1' : (0 : Int) < k := by omega
          obtain ⟨s2, hs2⟩ : ∃ s2, sB (ds ++ [k % 8]) = s2 := ⟨_, rfl⟩
          rw [hs2] at A hM
          have HM : Hid _ := hM
          have HS : Hid _ := hs2
          clear hM hs2
          go_wp2
          go_round
          case rel => exact ⟨k / 8, ds ++ [k % 8], by go_num, by rw [HS.out], by omega, HK3⟩
          case measure => simp only [intOf, HM.out]; omega
        · obtain rfl : k = 0 := by omega
          by_cases h2 : ds = []
          · subst h2
            have HK3 : Hid (Bst 8 n ([] ++ [0 % 8]) (0 / 8)) := HK.out.step (by decide) (.inr rfl)
            rw [sB_nil] at A ⊢
            obtain ⟨s2, hs2⟩ : ∃ s2, sB ([] ++ [0 % 8]) = s2 := ⟨_, rfl⟩
            rw [hs2] at A hM
            have HM : Hid _ := hM
            have HS : Hid _ := hs2
            clear hM hs2
            go_wp2
            go_round
            case rel => exact ⟨0 / 8, [] ++ [0 % 8], by go_num, by rw [HS.out], by omega, HK3⟩
            case measure => simp only [intOf, HM.out, sEmp_nil]; omega
          · have hne := sB_not h2
            have hv := HK.out.end
            have hdB := HK.out.1
            have hp : 0 < ds.length := List.length_pos_iff.2 h2
            clear A hM E h2
            go_wp2
            go_loop [8, 11] (fun sv zv => ∃ (y : Nat), y ≤ z ∧ zv = .int .i64 y ∧ sv = .string (sB (ds ++ List.replicate y 0))) (fun _ zv => z - (intOf zv).toNat)
            case atStart => exact ⟨0, Nat.zero_le _, rfl, by simp⟩
            case round =>
              obtain ⟨y, hy, rfl, rfl⟩ := hrel
              by_cases hyz : y < z
              · have hyi : (y : Int) < z := by omega
                have A := run_string_add_sum (P := Try.prog) wr ⟨#[48]⟩ (sB (ds ++ List.replicate y 0)) (by rw [sB_size, one_size, List.length_append, List.length_replicate]; omega)
                have e48 : (⟨#[48]⟩ : ByteArray) ++ sB (ds ++ List.replicate y 0) = sB (ds ++ List.replicate (y + 1) 0) := by rw [List.replicate_succ', ← List.append_assoc, sB_snoc]; rfl
                rw [e48] at A
                clear e48
                generalize sB (ds ++ List.replicate y 0) = s1 at A ⊢
                go_wp2
                go_round
                case rel => exact ⟨y + 1, by omega, by go_num, rfl⟩
                case measure => simp [intOf]; omega
              · obtain rfl : y = z := by omega
                have PY := Plain_yes (sB (ds ++ List.replicate y 0)) 8 wr (sB_ok (by omega) (zeros_dg (by decide) hdB) (by rw [List.length_append]; omega) (by rw [List.length_append, List.length_replicate]; omega))
                rw [zeros_num (by omega) hdB hv] at PY
                generalize sB (ds ++ List.replicate y 0) = s1 at PY ⊢
                generalize decB n = dn at PY DN
                clear HK hne
                go_wp2_with (first | (go_at_call 9; refine PY.mono ?_; rintro e w3 ⟨rfl, hB3⟩) | (go_at_call 17; refine (DN _).mono ?_; rintro e w3 ⟨rfl, rfl⟩))
                go_roundw
                case rel => exact ⟨0+1, by omega, by go_num, hBw.trans (hB3.mono hBw.size)⟩
                case measure => simp [intOf]
    · have c0 := (hBw.cell (p := ⟨W.heap.size, 1, none⟩) hW1).trans hc1
      clear hc0 hc1 hc2
      go_wp2
      go_loop [8, 9] (fun sv kv => ∃ (k : Nat) (ds : List Nat), kv = .int .i64 k ∧ sv = .string (sB ds) ∧ k ≤ n ∧ Hid (Bst 10 n ds k)) (fun sv kv => (intOf kv).toNat + sEmp sv)
      case atStart => exact ⟨n, [], rfl, rfl, Nat.le_refl _, Bst.start 10 n (by omega)⟩
      case round =>
        obtain ⟨k, ds, rfl, rfl, hkn, HK⟩ := hrel
        have hki : (k : Int) ≤ 9223372036854775807 := by omega
        have E := one_hex (k % 10) (by omega)
        have hdl := HK.out.len
        have A := run_string_add_sum (P := Try.prog) wr ⟨#[chr (k % 10)]⟩ (sB ds) (by rw [sB_size, one_size]; omega)
        rw [← sB_snoc] at A
        have hM : sEmp (.string (sB (ds ++ [k % 10]))) = 0 := sEmp_snoc _ _
        by_cases h1 : 0 < k
        · have HK3 : Hid (Bst 10 n (ds ++ [k % 10]) (k / 10)) := HK.out.step (by decide) (.inl h1)
          have h1' : (0 : Int) < k := by omega
          obtain ⟨s2, hs2⟩ : ∃ s2, sB (ds ++ [k % 10]) = s2 := ⟨_, rfl⟩
          rw [hs2] at A hM
          have HM : Hid _ := hM
          have HS : Hid _ := hs2
          clear hM hs2
          go_wp2
          go_round
          case rel => exact ⟨k / 10, ds ++ [k % 10], by go_num, by rw [HS.out], by omega, HK3⟩
          case measure => simp only [intOf, HM.out]; omega
        · obtain rfl : k = 0 := by omega
          by_cases h2 : ds = []
          · subst h2
            have HK3 : Hid (Bst 10 n ([] ++ [0 % 10]) (0 / 10)) := HK.out.step (by decide) (.inr rfl)
            rw [sB_nil] at A ⊢
            obtain ⟨s2, hs2⟩ : ∃ s2, sB ([] ++ [0 % 10]) = s2 := ⟨_, rfl⟩
            rw [hs2] at A hM
            have HM : Hid _ := hM
            have HS : Hid _ := hs2
            clear hM hs2
            go_wp2
            go_round
            case rel => exact ⟨0 / 10, [] ++ [0 % 10], by go_num, by rw [HS.out], by omega, HK3⟩
            case measure => simp only [intOf, HM.out, sEmp_nil]; omega
          · have hne := sB_not h2
            have hv := HK.out.end
            have hdB := HK.out.1
            have hp : 0 < ds.length := List.length_pos_iff.2 h2
            clear A hM E h2
            go_wp2
            go_loop [8, 11] (fun sv zv => ∃ (y : Nat), y ≤ z ∧ zv = .int .i64 y ∧ sv = .string (sB (ds ++ List.replicate y 0))) (fun _ zv => z - (intOf zv).toNat)
            case atStart => exact ⟨0, Nat.zero_le _, rfl, by simp⟩
            case round =>
              obtain ⟨y, hy, rfl, rfl⟩ := hrel
              by_cases hyz : y < z
              · have hyi : (y : Int) < z := by omega
                have A := run_string_add_sum (P := Try.prog) wr ⟨#[48]⟩ (sB (ds ++ List.replicate y 0)) (by rw [sB_size, one_size, List.length_append, List.length_replicate]; omega)
                have e48 : (⟨#[48]⟩ : ByteArray) ++ sB (ds ++ List.replicate y 0) = sB (ds ++ List.replicate (y + 1) 0) := by rw [List.replicate_succ', ← List.append_assoc, sB_snoc]; rfl
                rw [e48] at A
                clear e48
                generalize sB (ds ++ List.replicate y 0) = s1 at A ⊢
                go_wp2
                go_round
                case rel => exact ⟨y + 1, by omega, by go_num, rfl⟩
                case measure => simp [intOf]; omega
              · obtain rfl : y = z := by omega
                have PY := Plain_yes (sB (ds ++ List.replicate y 0)) 10 wr (sB_ok (by omega) (zeros_dg (by decide) hdB) (by rw [List.length_append]; omega) (by rw [List.length_append, List.length_replicate]; omega))
                rw [zeros_num (by omega) hdB hv] at PY
                generalize sB (ds ++ List.replicate y 0) = s1 at PY ⊢
                generalize decB n = dn at PY DN
                clear HK hne
                go_wp2_with (first | (go_at_call 9; refine PY.mono ?_; rintro e w3 ⟨rfl, hB3⟩) | (go_at_call 17; refine (DN _).mono ?_; rintro e w3 ⟨rfl, rfl⟩))
                go_roundw
                case rel => exact ⟨1+1, by omega, by go_num, hBw.trans (hB3.mono hBw.size)⟩
                case measure => simp [intOf]
    · have c0 := (hBw.cell (p := ⟨W.heap.size, 2, none⟩) hW1).trans hc2
      clear hc0 hc1 hc2
      go_wp2
      go_loop [8, 9] (fun sv kv => ∃ (k : Nat) (ds : List Nat), kv = .int .i64 k ∧ sv = .string (sB ds) ∧ k ≤ n ∧ Hid (Bst 16 n ds k)) (fun sv kv => (intOf kv).toNat + sEmp sv)
      case atStart => exact ⟨n, [], rfl, rfl, Nat.le_refl _, Bst.start 16 n (by omega)⟩
      case round =>
        obtain ⟨k, ds, rfl, rfl, hkn, HK⟩ := hrel
        have hki : (k : Int) ≤ 9223372036854775807 := by omega
        have E := one_hex (k % 16) (by omega)
        have hdl := HK.out.len
        have A := run_string_add_sum (P := Try.prog) wr ⟨#[chr (k % 16)]⟩ (sB ds) (by rw [sB_size, one_size]; omega)
        rw [← sB_snoc] at A
        have hM : sEmp (.string (sB (ds ++ [k % 16]))) = 0 := sEmp_snoc _ _
        by_cases h1 : 0 < k
        · have HK3 : Hid (Bst 16 n (ds ++ [k % 16]) (k / 16)) := HK.out.step (by decide) (.inl h1)
          have h1' : (0 : Int) < k := by omega
          obtain ⟨s2, hs2⟩ : ∃ s2, sB (ds ++ [k % 16]) = s2 := ⟨_, rfl⟩
          rw [hs2] at A hM
          have HM : Hid _ := hM
          have HS : Hid _ := hs2
          clear hM hs2
          go_wp2
          go_round
          case rel => exact ⟨k / 16, ds ++ [k % 16], by go_num, by rw [HS.out], by omega, HK3⟩
          case measure => simp only [intOf, HM.out]; omega
        · obtain rfl : k = 0 := by omega
          by_cases h2 : ds = []
          · subst h2
            have HK3 : Hid (Bst 16 n ([] ++ [0 % 16]) (0 / 16)) := HK.out.step (by decide) (.inr rfl)
            rw [sB_nil] at A ⊢
            obtain ⟨s2, hs2⟩ : ∃ s2, sB ([] ++ [0 % 16]) = s2 := ⟨_, rfl⟩
            rw [hs2] at A hM
            have HM : Hid _ := hM
            have HS : Hid _ := hs2
            clear hM hs2
            go_wp2
            go_round
            case rel => exact ⟨0 / 16, [] ++ [0 % 16], by go_num, by rw [HS.out], by omega, HK3⟩
            case measure => simp only [intOf, HM.out, sEmp_nil]; omega
          · have hne := sB_not h2
            have hv := HK.out.end
            have hdB := HK.out.1
            have hp : 0 < ds.length := List.length_pos_iff.2 h2
            clear A hM E h2
            go_wp2
            go_loop [8, 11] (fun sv zv => ∃ (y : Nat), y ≤ z ∧ zv = .int .i64 y ∧ sv = .string (sB (ds ++ List.replicate y 0))) (fun _ zv => z - (intOf zv).toNat)
            case atStart => exact ⟨0, Nat.zero_le _, rfl, by simp⟩
            case round =>
              obtain ⟨y, hy, rfl, rfl⟩ := hrel
              by_cases hyz : y < z
              · have hyi : (y : Int) < z := by omega
                have A := run_string_add_sum (P := Try.prog) wr ⟨#[48]⟩ (sB (ds ++ List.replicate y 0)) (by rw [sB_size, one_size, List.length_append, List.length_replicate]; omega)
                have e48 : (⟨#[48]⟩ : ByteArray) ++ sB (ds ++ List.replicate y 0) = sB (ds ++ List.replicate (y + 1) 0) := by rw [List.replicate_succ', ← List.append_assoc, sB_snoc]; rfl
                rw [e48] at A
                clear e48
                generalize sB (ds ++ List.replicate y 0) = s1 at A ⊢
                go_wp2
                go_round
                case rel => exact ⟨y + 1, by omega, by go_num, rfl⟩
                case measure => simp [intOf]; omega
              · obtain rfl : y = z := by omega
                have PY := Plain_yes (sB (ds ++ List.replicate y 0)) 16 wr (sB_ok (by omega) (zeros_dg (by decide) hdB) (by rw [List.length_append]; omega) (by rw [List.length_append, List.length_replicate]; omega))
                rw [zeros_num (by omega) hdB hv] at PY
                generalize sB (ds ++ List.replicate y 0) = s1 at PY ⊢
                generalize decB n = dn at PY DN
                clear HK hne
                go_wp2_with (first | (go_at_call 9; refine PY.mono ?_; rintro e w3 ⟨rfl, hB3⟩) | (go_at_call 17; refine (DN _).mono ?_; rintro e w3 ⟨rfl, rfl⟩))
                go_roundw
                case rel => exact ⟨2+1, by omega, by go_num, hBw.trans (hB3.mono hBw.size)⟩
                case measure => simp [intOf]
    · go_wp2
      go_ret
      exact ⟨rfl, hBF.trans (hBw.mono hBF.size)⟩

theorem walk (n z : Int) (w0 : (Lit.int .i64 n).wf = true) (w1 : (Lit.int .i64 z).wf = true) (w : World) :
    Calls Try.prog 7 #[.int .i64 n, .int .i64 z] w fun e w' => e = .returned (.bool true) ∧ Below w.heap.size w w' := by
  have hb := bounds_i64 w0
  by_cases h : n < 0 ∨ z < 0 ∨ 50 < z
  · exact far n z w (by omega)
  · obtain ⟨n', rfl⟩ := Int.eq_ofNat_of_zero_le (show 0 ≤ n by omega)
    obtain ⟨z', rfl⟩ := Int.eq_ofNat_of_zero_le (show 0 ≤ z by omega)
    exact near n' z' w (by omega) (by omega)

set_option maxRecDepth 100000 in
theorem lifted (os : Os) (started : os.Started) (H : Type) (enc : TypeId × Value → H) :
    ReturnsInHanded {} Try.checked os 7 .any (Rows.digitsBasesSpec.pre6 enc Try.prog Try.f7 Rows.digitsBasesRow.domain false) (Rows.digitsBasesSpec.post enc Try.prog Try.f7 false true false false) := by
  refine returnsInHanded_of_change (C := Try.checked) own started (by kernel_rfl) Try.func7
    (ChangeSpec.witness6 (enc := enc) (C := Try.checked) false ⟨#[], #[.int .i64 0, .int .i64 0], []⟩ 8 (by kernel_rfl) (by kernel_rfl) (by kernel_rfl) (by kernel_rfl)) ?_
  intro W base args ds gs before hval0 hW hcnd _
  have hval : ∀ (j : Nat) t v, Try.f7.params[j]? = some t → args[j]? = some v → Value.okWide Try.prog W .any base t v := hval0
  have hW' := hW
  obtain ⟨p, q, hA0, hV, rfl, hfz, hnd⟩ := hW
  have hA : DataW.TrodAll enc Try.prog W 0 (fun _ => true) true Try.f7.params.toList args.toList ds p := hA0
  rw [Try.params7] at hA hval
  obtain ⟨v0, vs0, d0, ds0, p0, q0, hargs0, rfl, rfl, h0, r0⟩ := trodAll_cons hA
  obtain ⟨v1, vs1, d1, ds1, p1, q1, hargs1, rfl, rfl, h1, r1⟩ := trodAll_cons r0
  obtain ⟨rfl, rfl, rfl⟩ := trodAll_nil r1
  obtain rfl : args = #[v0, v1] := by cases args; simp_all
  obtain ⟨rfl, rfl⟩ := trodVars_none hV
  obtain ⟨a0, rfl, rfl, rfl, w0⟩ := open_int Try.underlying3 (hval 0 3 v0 rfl rfl) h0
  obtain ⟨a1, rfl, rfl, rfl, w1⟩ := open_int Try.underlying3 (hval 1 3 v1 rfl rfl) h1
  clear hA0 hval0
  refine (walk a0 a1 w0 w1 W).mono fun e W' ⟨he, bel⟩ => ?_
  subst he
  exact ⟨_, rfl, _, _, _, [], _, [], hW', trodAll_mk1 (shut_bool Try.underlying4 _), (trodAll_cons_mk (shut_int Try.underlying3 w0) (trodAll_cons_mk (shut_int Try.underlying3 w1) trodAll_mk0)), rfl, bel.frame _, fun h => by cases h⟩

theorem over : Rows.digitsBasesRow.holds Try.pinned (OpenSpec.ofChange Rows.digitsBasesSpec) :=
  OpenClaim.holds_of_wide 7 Try.f7 rfl rfl rfl rfl rfl rfl rfl ⟨rfl, rfl, rfl, rfl, rfl⟩ rfl rfl rfl rfl rfl (by kernel_rfl) Try.func7 (by kernel_rfl)
    (of_decide_eq_true (by kernel_rfl)) (by unfold Func.isWrapper; first | (rw [if_pos (by decide +kernel)]; kernel_rfl) | (rw [if_neg (by decide +kernel)]; exact ⟨rfl, rfl⟩))
    (fun os started H enc _ => lifted os started H enc)
end Go.Proofs.Ytbckmahmlgjkpaa.digitsBases
namespace Go.Proofs.Ytbckmahmlgjkpaa
theorem digitsBases_holds : Rows.DigitsBasesSaid := digitsBases.over
end Go.Proofs.Ytbckmahmlgjkpaa
