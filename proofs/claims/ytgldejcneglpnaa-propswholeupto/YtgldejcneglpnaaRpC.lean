/- The document's prefix, as it runs (no handle but one sign). -/
import Derived.Test.YtgldejcneglpnaaRpd
set_option linter.unusedVariables false
set_option linter.unusedSimpArgs false
namespace Go.Proofs.Ytgldejcneglpnaa
open Go.RowKit Go.Shelf

set_option maxRecDepth 100000 in
set_option maxHeartbeats 1000000 in
theorem rpref_C (b o : Nat) (t : List Int) (c i s : Nat) (w : World) (hn : t.length ≤ 1000000) (hc : t.length ≤ c) (hm : c ≤ maxLen) (hi : i ≤ t.length) (hs : bE t i = s) (hsi : s ≠ i) (hsl : s < t.length) (h33 : iAt t s = 33) (hB0 : rhB t s = false) (hB1 : ¬ s + 1 < wE t (s + 1)) (hI : Is w (some ⟨b, o, none⟩) t) :
    Calls Try.prog 35 #[.slice (some ⟨b, o, none⟩) t.length c, .int .i64 i] w fun e w' => e = .returned (dirV (rpfP t s)) ∧ Below w.heap.size w w' := by
  have hn2 : (t.length : Int) ≤ 1000000 := by omega
  obtain ⟨p1, S1, hI1⟩ := cut_from hI hc i i rfl hi
  have PA := Past_any p1 (t.drop i) (t.length - i) (c - i) w (by simp) (by simp; omega) hI1
  have e1 : (i : Int) + (cnt blankP (t.drop i) : Nat) = (s : Nat) := by rw [← hs]; unfold bE; omega
  have hcb : ((cnt blankP (t.drop i) : Int) == 0) = false := by simp; intro e; apply hsi; rw [← hs]; unfold bE; omega
  generalize cnt blankP (t.drop i) = cb at *
  clear hI1 hs hsi
  have h3' : ¬ (t.length : Int) ≤ s := by omega
  have h3'' : (s : Int) < t.length := by omega
  have d1 : decide (t.length ≤ s) = false := decide_eq_false (by omega)
  have HU : Hid (∀ j, j < t.length → w.cell? ⟨b, o + j, none⟩ = some (.int .i64 (iAt t j))) := fun j hj => by
    obtain ⟨b', o', e, hu⟩ := hI.at (by omega)
    cases e
    exact hu j hj
  have cs := HU.out s hsl
  rw [h33] at cs
  clear h33
  have WDR : Hid (∀ (x : Int) (w : World), Calls Try.prog 18 #[.int .i64 x] w fun e w' => e = .returned (.bool (wordP x)) ∧ w' = w) := rword_any
  have hal : wE t (s + 1) ≤ t.length := wE_le (by omega)
  have hag : s + 1 ≤ wE t (s + 1) := wE_ge _ _
  have hA : runE (st wordP t) t.length (s + 1) = wE t (s + 1) := rfl
  have hd2 : wE t (s + 1) < t.length → iAt t (wE t (s + 1)) ≠ 33 := fun h e => by unfold rhB at hB0; exact of_decide_eq_false hB0 ⟨h, e⟩
  have hd2 : Hid _ := hd2
  have hk : rkP t s = s + 1 := by unfold rkP; rw [hB0]; rfl
  obtain ⟨V, hV⟩ : ∃ V, dirV (rpfP t s) = V := ⟨_, rfl⟩
  rw [hV]
  unfold rpfP at hV
  rw [hk] at hV
  generalize wE t (s + 1) = a at *
  obtain ⟨s1, hs1⟩ : ∃ s1, s + 1 = s1 := ⟨_, rfl⟩
  rw [hs1] at hA hag
  have HA : Hid (runE (st wordP t) t.length s1 = a) := hA
  have es : (s : Int) + 1 = (s1 : Nat) := by omega
  clear hA
  rw [hs1] at hV hB1
  have hB2 : Hid (a = s1) := by show a = s1; omega
  have hB3 : ¬ (s1 : Int) < a := by omega
  have hkl : s1 ≤ t.length := by omega
  have hss : s < s1 := by omega
  clear hk
  obtain ⟨p2, S2, hI2⟩ := cut_from hI hc s1 s1 rfl hkl
  have PA2 := Past_any p2 (t.drop s1) (t.length - s1) (c - s1) w (by simp) (by simp; omega) hI2
  have em : (s1 : Int) + (cnt blankP (t.drop s1) : Nat) = (bE t s1 : Nat) := by unfold bE; omega
  have z3 : Hid (cnt blankP (t.drop s1) = 0 ↔ bE t s1 = s1) := by show _ ↔ _; unfold bE; omega
  have hfl : bE t s1 ≤ t.length := bE_le hkl
  have hfg : s1 ≤ bE t s1 := bE_ge t s1
  have hgl : runE (uN t) t.length (bE t s1) ≤ t.length := runE_le (uN_bd t) hfl
  have hgg : bE t s1 ≤ runE (uN t) t.length (bE t s1) := runE_ge _ _ _
  have hG : runE (uN t) t.length (bE t s1) = runE (uN t) t.length (bE t s1) := rfl
  generalize bE t s1 = f at *
  generalize cnt blankP (t.drop s1) = m at *
  obtain ⟨g, hg⟩ : ∃ g, runE (uN t) t.length f = g := ⟨_, rfl⟩
  have HG : Hid (runE (uN t) t.length f = g) := hg
  rw [hg] at hV hgl hgg
  clear hg hG
  have HV : Hid _ := hV
  clear hV
  obtain ⟨p3, S3, hI3⟩ := cut_from hI hc g g rfl hgl
  have TL := tail_any p3 (t.drop g) (t.length - g) (c - g) w (by simp) (by simp; omega) hI3
  have S5 := slice_mid b o t.length c s s1 (by omega) (by omega) (by omega)
  have S6 : Hid (f < g → ∀ w2, (Instr.slice 22 (.slice (some ⟨b, o, none⟩) t.length c) (some (.int .i64 f)) (some (.int .i64 g)) none).run Try.prog w2 = .ok (.slice (some ⟨b, o + f, none⟩) (g - f) (c - f)) w2) := fun h => slice_mid b o t.length c f g (by omega) (by omega) (by omega)
  have T1 : Hid (∀ (W : World) (hW : Below w.heap.size w W), Calls Try.prog 33 #[.slice (some ⟨b, o + s, none⟩) (s1 - s) (c - s)] W fun e w' => e = .returned (.string (txt ((t.drop s).take (s1 - s)))) ∧ Below W.heap.size W w') := fun (W : World) (hW : Below w.heap.size w W) => rtext_any (some ⟨b, o + s, none⟩) ((t.drop s).take (s1 - s)) (s1 - s) (c - s) W (by simp; omega) (by simp; omega) (((hI.on hW).drop s).take _)
  have T2 : Hid (∀ (W : World) (hW : Below w.heap.size w W), Calls Try.prog 33 #[.slice (some ⟨b, o + f, none⟩) (g - f) (c - f)] W fun e w' => e = .returned (.string (txt ((t.drop f).take (g - f)))) ∧ Below W.heap.size W w') := fun (W : World) (hW : Below w.heap.size w W) => rtext_any (some ⟨b, o + f, none⟩) ((t.drop f).take (g - f)) (g - f) (c - f) W (by simp; omega) (by simp; omega) (((hI.on hW).drop f).take _)
  have UR := fun i (hi : i ≤ t.length) => uri_any (some ⟨b, o, none⟩) t t.length c i w rfl (by omega) (by omega) hI
  have UR : Hid _ := UR
  clear hI hI2 hI3
  clear hB0 hB1 hs1
  go_enter Try.func35, Try.ntmps35
  go_wp2_with fail
  refine PA.mono ?_; rintro e w ⟨rfl, rfl⟩
  clear PA
  go_wp2_with fail
  go_loop [9] (fun iv => ∃ (j : Nat), s1 ≤ j ∧ j ≤ t.length ∧ iv = .int .i64 j ∧ Hid (runE (st wordP t) t.length j = a)) (fun iv => t.length - (intOf iv).toNat)
  case atStart => exact ⟨s1, Nat.le_refl _, by omega, rfl, HA⟩
  case round =>
    obtain ⟨j, hj1, hj2, rfl, HJ⟩ := hrel
    by_cases hlt : j < t.length
    · have hli : (j : Int) < t.length := by omega
      have cj := HU.out j hlt
      have WD := WDR.out (iAt t j)
      cases hz : wordP (iAt t j) with
      | true =>
        rw [hz] at WD
        have HN : Hid (runE (st wordP t) t.length (j + 1) = a) := by
          have h3 := st_one hlt hz
          have := runE_step (L := t.length) (st_bd wordP t) (k := j) (by rw [h3]; omega)
          rw [h3] at this
          exact this.trans HJ.out
        generalize iAt t j = x at cj WD
        clear hz HJ HA WDR HG UR PA2 TL T1 T2 S5 S6 HV
        go_wp2_with (first | (go_at_call 18; refine (WD _).mono ?_; rintro e w ⟨rfl, rfl⟩))
        go_round
        case rel => exact ⟨j + 1, by omega, by omega, by go_num, HN⟩
        case measure => simp [intOf]; omega
      | false =>
        obtain rfl : j = a := by have := HJ.out; rw [runE_stop (st_none (fun _ => hz))] at this; exact this
        rw [hz] at WD
        have hy := hd2.out hlt
        have hy' : (iAt t j == 33) = false := by simpa using hy
        generalize iAt t j = x at cj WD hy'
        obtain rfl : j = s1 := hB2.out
        obtain ⟨K0, rfl⟩ : ∃ K0, K0 = j := ⟨_, rfl⟩
        clear hz HJ HA WDR hy
        go_wp2_with (first | (go_at_call 18; refine (WD _).mono ?_; rintro e w ⟨rfl, rfl⟩) | (go_at_call 56; refine PA2.mono ?_; rintro e w ⟨rfl, rfl⟩))
        go_loop [12] (fun iv => ∃ (j : Nat), f ≤ j ∧ j ≤ t.length ∧ iv = .int .i64 j ∧ Hid (runE (uN t) t.length j = g)) (fun iv => t.length - (intOf iv).toNat)
        case atStart => exact ⟨f, Nat.le_refl _, by omega, rfl, HG⟩
        case round =>
          obtain ⟨j, hj1, hj2, rfl, HJ⟩ := hrel
          have U1 := UR.out j hj2
          by_cases hz : uN t j = 0
          · obtain rfl : j = g := by have := HJ.out; rw [runE_stop hz] at this; exact this
            rw [hz] at U1
            have e0 : ((0 : Nat) : Int) = 0 := rfl
            rw [e0] at U1
            clear HJ HG UR hz
            by_cases h5 : m = 0
            · have hV := HV.out
              rw [if_pos (.inl (z3.out.1 h5)), dirV_none] at hV
              subst hV
              subst h5
              have e9 : ((0 : Nat) : Int) = 0 := rfl
              rw [e9] at em
              clear TL T1 T2 S5 S6 HV
              go_wp2_with (first | (go_at_call 28; refine U1.mono ?_; rintro e w ⟨rfl, rfl⟩))
              refine bodyPost_ret (results_tmp4 rfl _ _ _) rfl ?_
              exact ⟨rfl, Below.refl _ _⟩
            have h5' : ((m : Int) == 0) = false := by simpa using h5
            by_cases h6 : j = f
            · have hV := HV.out
              rw [if_pos (.inr (.inl h6)), dirV_none] at hV
              subst hV
              subst h6
              clear TL T1 T2 S5 S6 HV h5
              go_wp2_with (first | (go_at_call 28; refine U1.mono ?_; rintro e w ⟨rfl, rfl⟩))
              refine bodyPost_ret (results_tmp4 rfl _ _ _) rfl ?_
              exact ⟨rfl, Below.refl _ _⟩
            have h6' : ((j : Int) == (f : Int)) = false := by simp; omega
            cases htl : tailP (t.drop j) with
            | false =>
              have hV := HV.out
              rw [if_pos (.inr (.inr htl)), dirV_none] at hV
              subst hV
              rw [htl] at TL
              clear T1 T2 S5 S6 HV h5 h6 htl
              go_wp2_with (first | (go_at_call 28; refine U1.mono ?_; rintro e w ⟨rfl, rfl⟩) | (go_at_call 58; refine TL.mono ?_; rintro e w ⟨rfl, rfl⟩))
              refine bodyPost_ret (results_tmp4 rfl _ _ _) rfl ?_
              exact ⟨rfl, Below.refl _ _⟩
            | true =>
              have hV := HV.out
              rw [if_neg (fun h => by rcases h with h | h | h; exact h5 (z3.out.2 h); exact h6 h; rw [htl] at h; cases h), dirV_some] at hV
              rw [htl] at TL
              generalize txt ((t.drop s).take (K0 - s)) = x1 at T1 hV
              generalize txt ((t.drop f).take (j - f)) = x2 at T2 hV
              subst hV
              have S6' := S6.out (by omega)
              clear HV h5 h6 htl S6
              go_wp2_with fail
              refine U1.mono ?_; rintro e w ⟨rfl, rfl⟩
              go_wp2_with fail
              refine TL.mono ?_; rintro e w ⟨rfl, rfl⟩
              clear U1 TL
              go_wp2_with fail
              refine wp_region_quiet (C := fun w' => ∃ n : KinT w, w' = n.val) (by kernel_rfl) (by kernel_rfl) ⟨⟨w.drew, (Below.refl _ w).drew⟩, rfl⟩ ?_
              simp only [List.toList_toArray]
              repeat (go_big_quiet_step (first | (go_at_call 33; first | with_reducible exact kin_call (T1.out _ (KinT.property _)) | with_reducible exact kin_call (T2.out _ (KinT.property _))) | exact rfl))
              refine wpQuiet_nil ?_
              rintro w' ⟨n, rfl⟩
              go_wp2
              refine bodyPost_ret (results_tmp4 rfl _ _ _) rfl ?_
              exact ⟨rfl, n.property⟩
          · have hle2 : j + uN t j ≤ t.length := by rcases uN_bd t j with h | h <;> omega
            have HN : Hid (runE (uN t) t.length (j + uN t j) = g) := (runE_step (uN_bd t) hz).trans HJ.out
            generalize uN t j = y at *
            have hy' : (0 : Int) < y := by omega
            clear HJ HG UR TL T1 T2 S5 S6 HV
            go_wp2_with fail
            refine U1.mono ?_; rintro e w ⟨rfl, rfl⟩
            go_wp2_with fail
            refine U1.mono ?_; rintro e w ⟨rfl, rfl⟩
            go_wp2
            go_round
            case rel => exact ⟨j + y, by omega, by omega, by go_num, HN⟩
            case measure => simp [intOf]; omega
    · have hge3 : ¬ (j : Int) < t.length := by omega
      obtain rfl : j = a := by
        have := HJ.out
        rw [runE_stop (st_none (fun h => absurd h hlt))] at this
        exact this
      obtain rfl : j = s1 := hB2.out
      obtain ⟨K0, rfl⟩ : ∃ K0, K0 = j := ⟨_, rfl⟩
      clear HJ HA WDR hlt
      go_wp2_with (first | (go_at_call 56; refine PA2.mono ?_; rintro e w ⟨rfl, rfl⟩))
      go_loop [12] (fun iv => ∃ (j : Nat), f ≤ j ∧ j ≤ t.length ∧ iv = .int .i64 j ∧ Hid (runE (uN t) t.length j = g)) (fun iv => t.length - (intOf iv).toNat)
      case atStart => exact ⟨f, Nat.le_refl _, by omega, rfl, HG⟩
      case round =>
        obtain ⟨j, hj1, hj2, rfl, HJ⟩ := hrel
        have U1 := UR.out j hj2
        by_cases hz : uN t j = 0
        · obtain rfl : j = g := by have := HJ.out; rw [runE_stop hz] at this; exact this
          rw [hz] at U1
          have e0 : ((0 : Nat) : Int) = 0 := rfl
          rw [e0] at U1
          clear HJ HG UR hz
          by_cases h5 : m = 0
          · have hV := HV.out
            rw [if_pos (.inl (z3.out.1 h5)), dirV_none] at hV
            subst hV
            subst h5
            have e9 : ((0 : Nat) : Int) = 0 := rfl
            rw [e9] at em
            clear TL T1 T2 S5 S6 HV
            go_wp2_with (first | (go_at_call 28; refine U1.mono ?_; rintro e w ⟨rfl, rfl⟩))
            refine bodyPost_ret (results_tmp4 rfl _ _ _) rfl ?_
            exact ⟨rfl, Below.refl _ _⟩
          have h5' : ((m : Int) == 0) = false := by simpa using h5
          by_cases h6 : j = f
          · have hV := HV.out
            rw [if_pos (.inr (.inl h6)), dirV_none] at hV
            subst hV
            subst h6
            clear TL T1 T2 S5 S6 HV h5
            go_wp2_with (first | (go_at_call 28; refine U1.mono ?_; rintro e w ⟨rfl, rfl⟩))
            refine bodyPost_ret (results_tmp4 rfl _ _ _) rfl ?_
            exact ⟨rfl, Below.refl _ _⟩
          have h6' : ((j : Int) == (f : Int)) = false := by simp; omega
          cases htl : tailP (t.drop j) with
          | false =>
            have hV := HV.out
            rw [if_pos (.inr (.inr htl)), dirV_none] at hV
            subst hV
            rw [htl] at TL
            clear T1 T2 S5 S6 HV h5 h6 htl
            go_wp2_with (first | (go_at_call 28; refine U1.mono ?_; rintro e w ⟨rfl, rfl⟩) | (go_at_call 58; refine TL.mono ?_; rintro e w ⟨rfl, rfl⟩))
            refine bodyPost_ret (results_tmp4 rfl _ _ _) rfl ?_
            exact ⟨rfl, Below.refl _ _⟩
          | true =>
            have hV := HV.out
            rw [if_neg (fun h => by rcases h with h | h | h; exact h5 (z3.out.2 h); exact h6 h; rw [htl] at h; cases h), dirV_some] at hV
            rw [htl] at TL
            generalize txt ((t.drop s).take (K0 - s)) = x1 at T1 hV
            generalize txt ((t.drop f).take (j - f)) = x2 at T2 hV
            subst hV
            have S6' := S6.out (by omega)
            clear HV h5 h6 htl S6
            go_wp2_with fail
            refine U1.mono ?_; rintro e w ⟨rfl, rfl⟩
            go_wp2_with fail
            refine TL.mono ?_; rintro e w ⟨rfl, rfl⟩
            clear U1 TL
            go_wp2_with fail
            refine wp_region_quiet (C := fun w' => ∃ n : KinT w, w' = n.val) (by kernel_rfl) (by kernel_rfl) ⟨⟨w.drew, (Below.refl _ w).drew⟩, rfl⟩ ?_
            simp only [List.toList_toArray]
            repeat (go_big_quiet_step (first | (go_at_call 33; first | with_reducible exact kin_call (T1.out _ (KinT.property _)) | with_reducible exact kin_call (T2.out _ (KinT.property _))) | exact rfl))
            refine wpQuiet_nil ?_
            rintro w' ⟨n, rfl⟩
            go_wp2
            refine bodyPost_ret (results_tmp4 rfl _ _ _) rfl ?_
            exact ⟨rfl, n.property⟩
        · exact absurd (by unfold uN; rw [if_pos (by omega)]) hz
end Go.Proofs.Ytgldejcneglpnaa
