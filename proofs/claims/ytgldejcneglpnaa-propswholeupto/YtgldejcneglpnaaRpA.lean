/- The document's prefix, as it runs (words without a handle). -/
import Derived.Test.YtgldejcneglpnaaRpd
set_option linter.unusedVariables false
set_option linter.unusedSimpArgs false
namespace Go.Proofs.Ytgldejcneglpnaa
open Go.RowKit Go.Shelf

set_option maxRecDepth 100000 in
set_option maxHeartbeats 1000000 in
theorem rpref_A (b o : Nat) (t : List Int) (c i s : Nat) (w : World) (hn : t.length ≤ 1000000) (hc : t.length ≤ c) (hm : c ≤ maxLen) (hi : i ≤ t.length) (hs : bE t i = s) (hsi : s ≠ i) (hsl : s < t.length) (h33 : iAt t s = 33) (hB0 : rhB t s = false) (hB1 : s + 1 < wE t (s + 1)) (hI : Is w (some ⟨b, o, none⟩) t) :
    Calls Try.prog 35 #[.slice (some ⟨b, o, none⟩) t.length c, .int .i64 i] w fun e w' => e = .returned (dirV (none)) ∧ Below w.heap.size w w' := by
  have hn2 : (t.length : Int) ≤ 1000000 := by omega
  obtain ⟨p1, S1, hI1⟩ := cut_from hI hc i i rfl hi
  have PA := Past_any p1 (t.drop i) (t.length - i) (c - i) w (by simp) (by simp; omega) hI1
  have e1 : (i : Int) + (cnt blankP (t.drop i) : Nat) = (s : Nat) := by rw [← hs]; unfold bE; omega
  have hcb : ((cnt blankP (t.drop i) : Int) == 0) = false := by simp; intro e; apply hsi; rw [← hs]; unfold bE; omega
  generalize cnt blankP (t.drop i) = cb at *
  clear hI1 hs hsi
  have h3' : ¬ (t.length : Int) ≤ s := by omega
  have h3'' : (s : Int) < t.length := by omega
  have d1 : decide (t.length ≤ s) = false := decide_eq_false (by omega)
  have HU : Hid (∀ j, j < t.length → w.cell? ⟨b, o + j, none⟩ = some (.int .i64 (iAt t j))) := fun j hj => by
    obtain ⟨b', o', e, hu⟩ := hI.at (by omega)
    cases e
    exact hu j hj
  have cs := HU.out s hsl
  rw [h33] at cs
  clear h33
  have WDR : Hid (∀ (x : Int) (w : World), Calls Try.prog 18 #[.int .i64 x] w fun e w' => e = .returned (.bool (wordP x)) ∧ w' = w) := rword_any
  have hal : wE t (s + 1) ≤ t.length := wE_le (by omega)
  have hag : s + 1 ≤ wE t (s + 1) := wE_ge _ _
  have hA : runE (st wordP t) t.length (s + 1) = wE t (s + 1) := rfl
  have hd2 : wE t (s + 1) < t.length → iAt t (wE t (s + 1)) ≠ 33 := fun h e => by unfold rhB at hB0; exact of_decide_eq_false hB0 ⟨h, e⟩
  have hd2 : Hid _ := hd2
  rw [dirV_none]
  generalize wE t (s + 1) = a at *
  obtain ⟨s1, hs1⟩ : ∃ s1, s + 1 = s1 := ⟨_, rfl⟩
  rw [hs1] at hA hag
  have HA : Hid (runE (st wordP t) t.length s1 = a) := hA
  have es : (s : Int) + 1 = (s1 : Nat) := by omega
  clear hA
  rw [hs1] at hB1
  have hB2 : (s1 : Int) < a := by omega
  clear hB0 hI hs1
  go_enter Try.func35, Try.ntmps35
  go_wp2_with fail
  refine PA.mono ?_; rintro e w ⟨rfl, rfl⟩
  clear PA
  go_wp2_with fail
  go_loop [9] (fun iv => ∃ (j : Nat), s1 ≤ j ∧ j ≤ t.length ∧ iv = .int .i64 j ∧ Hid (runE (st wordP t) t.length j = a)) (fun iv => t.length - (intOf iv).toNat)
  case atStart => exact ⟨s1, Nat.le_refl _, by omega, rfl, HA⟩
  case round =>
    obtain ⟨j, hj1, hj2, rfl, HJ⟩ := hrel
    by_cases hlt : j < t.length
    · have hli : (j : Int) < t.length := by omega
      have cj := HU.out j hlt
      have WD := WDR.out (iAt t j)
      cases hz : wordP (iAt t j) with
      | true =>
        rw [hz] at WD
        have HN : Hid (runE (st wordP t) t.length (j + 1) = a) := by
          have h3 := st_one hlt hz
          have := runE_step (L := t.length) (st_bd wordP t) (k := j) (by rw [h3]; omega)
          rw [h3] at this
          exact this.trans HJ.out
        generalize iAt t j = x at cj WD
        clear hz HJ HA WDR
        go_wp2_with (first | (go_at_call 18; refine (WD _).mono ?_; rintro e w ⟨rfl, rfl⟩))
        go_round
        case rel => exact ⟨j + 1, by omega, by omega, by go_num, HN⟩
        case measure => simp [intOf]; omega
      | false =>
        obtain rfl : j = a := by have := HJ.out; rw [runE_stop (st_none (fun _ => hz))] at this; exact this
        rw [hz] at WD
        have hy := hd2.out hlt
        have hy' : (iAt t j == 33) = false := by simpa using hy
        generalize iAt t j = x at cj WD hy'
        clear hz HJ HA WDR hy
        go_wp2_with (first | (go_at_call 18; refine (WD _).mono ?_; rintro e w ⟨rfl, rfl⟩))
        refine bodyPost_ret (results_tmp4 rfl _ _ _) rfl ?_
        exact ⟨rfl, Below.refl _ _⟩
    · have hge3 : ¬ (j : Int) < t.length := by omega
      obtain rfl : j = a := by
        have := HJ.out
        rw [runE_stop (st_none (fun h => absurd h hlt))] at this
        exact this
      clear HJ HA WDR hlt
      go_wp2
      refine bodyPost_ret (results_tmp4 rfl _ _ _) rfl ?_
      exact ⟨rfl, Below.refl _ _⟩
end Go.Proofs.Ytgldejcneglpnaa
