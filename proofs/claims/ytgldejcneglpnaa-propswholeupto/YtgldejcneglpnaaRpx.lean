/- The document's prefix, whole. -/
import Derived.Test.YtgldejcneglpnaaRpA
import Derived.Test.YtgldejcneglpnaaRpB
import Derived.Test.YtgldejcneglpnaaRpC
set_option linter.unusedVariables false
set_option linter.unusedSimpArgs false
namespace Go.Proofs.Ytgldejcneglpnaa
open Go.RowKit Go.Shelf

set_option maxRecDepth 100000 in
set_option maxHeartbeats 1000000 in
theorem rprefix_any (b o : Nat) (t : List Int) (n c i : Nat) (w : World) (hl : n = t.length) (hn : t.length ≤ 1000000) (hc : t.length ≤ c) (hm : c ≤ maxLen) (hi : i ≤ t.length) (hI : Is w (some ⟨b, o, none⟩) t) :
    Calls Try.prog 35 #[.slice (some ⟨b, o, none⟩) n c, .int .i64 i] w fun e w' => e = .returned (dirV (rprefP t i)) ∧ Below w.heap.size w w' := by
  subst hl
  have hn2 : (t.length : Int) ≤ 1000000 := by omega
  by_cases hsi : bE t i = i
  · have hV : rprefP t i = none := by unfold rprefP; rw [if_pos (.inl hsi)]
    rw [hV, dirV_none]
    obtain ⟨p1, S1, hI1⟩ := cut_from hI hc i i rfl hi
    have PA := Past_any p1 (t.drop i) (t.length - i) (c - i) w (by simp) (by simp; omega) hI1
    have hcb : cnt blankP (t.drop i) = 0 := by unfold bE at hsi; omega
    rw [hcb] at PA
    have e0 : ((0 : Nat) : Int) = 0 := rfl
    rw [e0] at PA
    clear hI hI1 hcb hsi hV
    go_enter Try.func35, Try.ntmps35
    go_wp2_with (first | (go_at_call 56; refine PA.mono ?_; rintro e w ⟨rfl, rfl⟩))
    refine bodyPost_ret (results_tmp4 rfl _ _ _) rfl ?_
    exact ⟨rfl, Below.refl _ _⟩
  obtain ⟨s, hs⟩ : ∃ s, bE t i = s := ⟨_, rfl⟩
  by_cases h2 : s < t.length ∧ iAt t s = 33
  · obtain ⟨h2, h33⟩ := h2
    have hV : rprefP t i = if rhB t s = false ∧ s + 1 < wE t (s + 1) then none else rpfP t s := by
      unfold rprefP
      rw [hs]
      rw [if_neg (fun h => by rcases h with h | h | h; exact hsi (hs.trans h); omega; exact h h33)]
    rw [hV]
    cases hB : rhB t s with
    | true =>
      rw [if_neg (fun h => by cases h.1)]
      exact rpref_B b o t c i s w hn hc hm hi hs (by rw [← hs]; exact hsi) h2 h33 hB hI
    | false =>
      by_cases h3 : s + 1 < wE t (s + 1)
      · rw [if_pos ⟨rfl, h3⟩]
        exact rpref_A b o t c i s w hn hc hm hi hs (by rw [← hs]; exact hsi) h2 h33 hB h3 hI
      · rw [if_neg (fun h => h3 h.2)]
        exact rpref_C b o t c i s w hn hc hm hi hs (by rw [← hs]; exact hsi) h2 h33 hB h3 hI
  · have hV : rprefP t i = none := by
      unfold rprefP
      rw [hs]
      refine if_pos (.inr ?_)
      by_cases h : s < t.length
      · exact .inr (fun e => h2 ⟨h, e⟩)
      · exact .inl (by omega)
    rw [hV, dirV_none]
    obtain ⟨p1, S1, hI1⟩ := cut_from hI hc i i rfl hi
    have PA := Past_any p1 (t.drop i) (t.length - i) (c - i) w (by simp) (by simp; omega) hI1
    have e1 : (i : Int) + (cnt blankP (t.drop i) : Nat) = (s : Nat) := by rw [← hs]; unfold bE; omega
    have hcb : ((cnt blankP (t.drop i) : Int) == 0) = false := by simp; intro e; apply hsi; unfold bE; omega
    have hsl : s ≤ t.length := by rw [← hs]; exact bE_le hi
    generalize cnt blankP (t.drop i) = cb at *
    by_cases h3 : s < t.length
    · have h4 : iAt t s ≠ 33 := fun e => h2 ⟨h3, e⟩
      have h4' : (iAt t s == 33) = false := by simpa using h4
      have h4'' : (iAt t s != 33) = true := by simpa using h4
      obtain ⟨b', o', e, hu⟩ := hI.at (by omega)
      cases e
      have cs := hu s h3
      have h3' : ¬ (t.length : Int) ≤ s := by omega
      have h3'' : (s : Int) < t.length := by omega
      generalize iAt t s = x at cs h4' h4''
      clear hI hI1 hsi hV hs h2 h4 hu
      go_enter Try.func35, Try.ntmps35
      go_wp2_with (first | (go_at_call 56; refine PA.mono ?_; rintro e w ⟨rfl, rfl⟩))
      refine bodyPost_ret (results_tmp4 rfl _ _ _) rfl ?_
      exact ⟨rfl, Below.refl _ _⟩
    · have h3' : (t.length : Int) ≤ s := by omega
      clear hI hI1 hsi hV hs h2
      go_enter Try.func35, Try.ntmps35
      go_wp2_with (first | (go_at_call 56; refine PA.mono ?_; rintro e w ⟨rfl, rfl⟩))
      refine bodyPost_ret (results_tmp4 rfl _ _ _) rfl ?_
      exact ⟨rfl, Below.refl _ _⟩
end Go.Proofs.Ytgldejcneglpnaa
