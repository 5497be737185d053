/- The document's version, as it runs. -/
import Derived.Test.YtgldejcneglpnaaRvr
set_option linter.unusedVariables false
set_option linter.unusedSimpArgs false
namespace Go.Proofs.Ytgldejcneglpnaa
open Go.RowKit Go.Shelf

set_option maxRecDepth 100000 in
set_option maxHeartbeats 1000000 in
theorem rversion_any (b o : Nat) (t : List Int) (n c i : Nat) (w : World) (hl : n = t.length) (hn : t.length ≤ 1000000) (hc : t.length ≤ c) (hm : c ≤ maxLen) (hi : i ≤ t.length) (hI : Is w (some ⟨b, o, none⟩) t) :
    Calls Try.prog 34 #[.slice (some ⟨b, o, none⟩) n c, .int .i64 i] w fun e w' => e = .returned (dirV (rverP t i)) ∧ Below w.heap.size w w' := by
  subst hl
  have hn2 : (t.length : Int) ≤ 1000000 := by omega
  obtain ⟨p1, S1, hI1⟩ := cut_from hI hc i i rfl hi
  have PA := Past_any p1 (t.drop i) (t.length - i) (c - i) w (by simp) (by simp; omega) hI1
  have hsl := bE_le hi
  have hkl := dE_le hsl
  have e1 : (i : Int) + (cnt blankP (t.drop i) : Nat) = (bE t i : Nat) := by unfold bE; omega
  have C1 := rcount_any (some ⟨b, o, none⟩) t t.length c (bE t i) w rfl (by omega) hsl hI
  have e2 : (bE t i : Int) + (cnt digitP (t.drop (bE t i)) : Nat) = (dE t (bE t i) : Nat) := by unfold dE; omega
  have z1 : cnt blankP (t.drop i) = 0 ↔ bE t i = i := by unfold bE; omega
  have z2 : cnt digitP (t.drop (bE t i)) = 0 ↔ dE t (bE t i) = bE t i := by unfold dE; omega
  obtain ⟨V, hV⟩ : ∃ V, dirV (rverP t i) = V := ⟨_, rfl⟩
  rw [hV]
  unfold rverP at hV
  generalize hs : bE t i = s at *
  generalize hk : dE t s = k at *
  generalize cnt blankP (t.drop i) = cb at *
  generalize hca : cnt digitP (t.drop s) = ca at *
  clear hca
  have HK : Hid (dE t s = k) := hk
  clear hk hs
  have HU : Hid (∀ j, j < t.length → w.cell? ⟨b, o + j, none⟩ = some (.int .i64 (iAt t j))) := fun j hj => by
    obtain ⟨b', o', e, hu⟩ := hI.at (by omega)
    cases e
    exact hu j hj
  by_cases h1 : cb = 0
  · rw [if_pos (.inl (z1.1 h1))] at hV
    subst hV
    rw [dirV_none]
    subst h1
    have e0 : ((0 : Nat) : Int) = 0 := rfl
    rw [e0] at PA e1
    clear hI hI1 z1 z2 HU
    go_enter Try.func34, Try.ntmps34
    go_wp2_with (first | (go_at_call 56; refine PA.mono ?_; rintro e w ⟨rfl, rfl⟩) | (go_at_call 57; refine C1.mono ?_; rintro e w ⟨rfl, rfl⟩))
    refine bodyPost_ret (results_tmp4 rfl _ _ _) rfl ?_
    exact ⟨rfl, Below.refl _ _⟩
  have h1' : ((cb : Int) == 0) = false := by simpa using h1
  by_cases h2 : ca = 0
  · rw [if_pos (.inr (.inl (z2.1 h2)))] at hV
    subst hV
    rw [dirV_none]
    subst h2
    have e0 : ((0 : Nat) : Int) = 0 := rfl
    rw [e0] at C1 e2
    clear hI hI1 z1 z2 HU h1
    go_enter Try.func34, Try.ntmps34
    go_wp2_with (first | (go_at_call 56; refine PA.mono ?_; rintro e w ⟨rfl, rfl⟩) | (go_at_call 57; refine C1.mono ?_; rintro e w ⟨rfl, rfl⟩))
    refine bodyPost_ret (results_tmp4 rfl _ _ _) rfl ?_
    exact ⟨rfl, Below.refl _ _⟩
  have h2' : ((ca : Int) == 0) = false := by simpa using h2
  by_cases h3 : t.length ≤ k
  · rw [if_pos (.inr (.inr (.inl h3)))] at hV
    subst hV
    rw [dirV_none]
    have h3' : (t.length : Int) ≤ k := by omega
    clear hI hI1 z1 z2 HU h1 h2
    go_enter Try.func34, Try.ntmps34
    go_wp2_with (first | (go_at_call 56; refine PA.mono ?_; rintro e w ⟨rfl, rfl⟩) | (go_at_call 57; refine C1.mono ?_; rintro e w ⟨rfl, rfl⟩))
    refine bodyPost_ret (results_tmp4 rfl _ _ _) rfl ?_
    exact ⟨rfl, Below.refl _ _⟩
  have h3' : ¬ (t.length : Int) ≤ k := by omega
  have h3'' : (k : Int) < t.length := by omega
  have ck := HU.out k (by omega)
  by_cases h4 : iAt t k = 46
  rotate_left
  · rw [if_pos (.inr (.inr (.inr h4)))] at hV
    subst hV
    rw [dirV_none]
    have h4' : (iAt t k == 46) = false := by simpa using h4
    have h4'' : (iAt t k != 46) = true := by simpa using h4
    generalize iAt t k = x at ck h4' h4''
    clear hI hI1 z1 z2 HU h1 h2 h3 h4
    go_enter Try.func34, Try.ntmps34
    go_wp2_with (first | (go_at_call 56; refine PA.mono ?_; rintro e w ⟨rfl, rfl⟩) | (go_at_call 57; refine C1.mono ?_; rintro e w ⟨rfl, rfl⟩))
    refine bodyPost_ret (results_tmp4 rfl _ _ _) rfl ?_
    exact ⟨rfl, Below.refl _ _⟩
  rw [if_neg (fun h => by rcases h with h | h | h | h; exact h1 (z1.2 h); exact h2 (z2.2 h); exact h3 h; exact h h4)] at hV
  rw [h4] at ck
  have hge1 : s ≤ k := by omega
  obtain ⟨k1, hk1⟩ : ∃ k1, k + 1 = k1 := ⟨_, rfl⟩
  rw [hk1] at hV
  have hk1l : k1 ≤ t.length := by omega
  have C2 := rcount_any (some ⟨b, o, none⟩) t t.length c k1 w rfl (by omega) hk1l hI
  have e3 : (k : Int) + 1 = (k1 : Nat) := by omega
  have e4 : (k1 : Int) + (cnt digitP (t.drop k1) : Nat) = (dE t k1 : Nat) := by unfold dE; omega
  have z3 : cnt digitP (t.drop k1) = 0 ↔ dE t k1 = k1 := by unfold dE; omega
  have hml := dE_le hk1l
  have hmg : k1 ≤ dE t k1 := Nat.le_add_right _ _
  obtain ⟨p2, S2, hI2⟩ := cut_from hI hc (dE t k1) (dE t k1) rfl hml
  have TL := tail_any p2 (t.drop (dE t k1)) (t.length - dE t k1) (c - dE t k1) w (by simp) (by simp; omega) hI2
  generalize dE t k1 = m at *
  generalize cnt digitP (t.drop k1) = d at *
  clear hI1 z1 z2 HU h1 h2 h3 h4
  by_cases h5 : d = 0
  · rw [if_pos (.inl (z3.1 h5))] at hV
    subst hV
    rw [dirV_none]
    subst h5
    have e0 : ((0 : Nat) : Int) = 0 := rfl
    rw [e0] at C2 e4
    clear hI z3 HK
    go_enter Try.func34, Try.ntmps34
    go_wp2_with fail
    refine PA.mono ?_; rintro e w ⟨rfl, rfl⟩
    go_wp2_with fail
    refine C1.mono ?_; rintro e w ⟨rfl, rfl⟩
    go_wp2_with fail
    refine C2.mono ?_; rintro e w ⟨rfl, rfl⟩
    go_wp2
    refine bodyPost_ret (results_tmp4 rfl _ _ _) rfl ?_
    exact ⟨rfl, Below.refl _ _⟩
  have h5' : ((d : Int) == 0) = false := by simpa using h5
  cases htl : tailP (t.drop m) with
  | false =>
    rw [if_pos (.inr htl)] at hV
    subst hV
    rw [dirV_none]
    rw [htl] at TL
    clear hI z3 HK h5 htl
    go_enter Try.func34, Try.ntmps34
    go_wp2_with fail
    refine PA.mono ?_; rintro e w ⟨rfl, rfl⟩
    go_wp2_with fail
    refine C1.mono ?_; rintro e w ⟨rfl, rfl⟩
    go_wp2_with fail
    refine C2.mono ?_; rintro e w ⟨rfl, rfl⟩
    go_wp2_with fail
    refine TL.mono ?_; rintro e w ⟨rfl, rfl⟩
    go_wp2
    refine bodyPost_ret (results_tmp4 rfl _ _ _) rfl ?_
    exact ⟨rfl, Below.refl _ _⟩
  | true =>
    rw [if_neg (fun h => by rcases h with h | h; exact h5 (z3.2 h); rw [htl] at h; cases h)] at hV
    subst hV
    rw [dirV_some]
    rw [htl] at TL
    have S5 := slice_mid b o t.length c s k (by omega) (by omega) (by omega)
    have S6 := slice_mid b o t.length c k1 m (by omega) (by omega) (by omega)
    have T1 := fun (W : World) (hW : Below w.heap.size w W) => rtext_any (some ⟨b, o + s, none⟩) ((t.drop s).take (k - s)) (k - s) (c - s) W (by simp; omega) (by simp; omega) (((hI.on hW).drop s).take _)
    have T2 := fun (W : World) (hW : Below w.heap.size w W) => rtext_any (some ⟨b, o + k1, none⟩) ((t.drop k1).take (m - k1)) (m - k1) (c - k1) W (by simp; omega) (by simp; omega) (((hI.on hW).drop k1).take _)
    generalize txt ((t.drop s).take (k - s)) = x1 at T1 ⊢
    generalize txt ((t.drop k1).take (m - k1)) = x2 at T2 ⊢
    clear hI z3 HK h5 htl
    go_enter Try.func34, Try.ntmps34
    go_wp2_with fail
    refine PA.mono ?_; rintro e w ⟨rfl, rfl⟩
    go_wp2_with fail
    refine C1.mono ?_; rintro e w ⟨rfl, rfl⟩
    go_wp2_with fail
    refine C2.mono ?_; rintro e w ⟨rfl, rfl⟩
    go_wp2_with fail
    refine TL.mono ?_; rintro e w ⟨rfl, rfl⟩
    clear PA C1 C2 TL
    go_wp2_with fail
    refine wp_region_quiet (C := fun w' => ∃ n : KinT w, w' = n.val) (by kernel_rfl) (by kernel_rfl) ⟨⟨w.drew, (Below.refl _ w).drew⟩, rfl⟩ ?_
    simp only [List.toList_toArray]
    repeat (go_big_quiet_step (first | (go_at_call 33; first | with_reducible exact kin_call (T1 _ (KinT.property _)) | with_reducible exact kin_call (T2 _ (KinT.property _))) | exact rfl))
    refine wpQuiet_nil ?_
    rintro w' ⟨n, rfl⟩
    go_wp2
    refine bodyPost_ret (results_tmp4 rfl _ _ _) rfl ?_
    exact ⟨rfl, n.property⟩
end Go.Proofs.Ytgldejcneglpnaa
