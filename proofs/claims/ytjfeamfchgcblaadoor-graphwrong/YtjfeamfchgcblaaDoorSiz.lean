/- How many code points the URI sign at a place has: signSize, and the document's uri. -/
import Derived.Test.YtjfeamfchgcblaaDoorCnt
set_option linter.unusedVariables false
set_option linter.unusedSimpArgs false
namespace Go.Proofs.YtjfeamfchgcblaaDoor
open Go.RowKit

def uN (t : List Int) (i : Nat) : Nat :=
  if t.length ≤ i then 0 else if uriP (iAt t i) = true then 1
  else if iAt t i = 37 ∧ i + 2 < t.length ∧ hexOk (iAt t (i + 1)) = true ∧ hexOk (iAt t (i + 2)) = true then 3 else 0
theorem uN_bd (t : List Int) : Bd (uN t) t.length := by
  intro k
  unfold uN
  repeat' split
  all_goals omega
theorem uN_drop (t : List Int) (a j : Nat) : uN (t.drop a) j = uN t (a + j) := by
  unfold uN
  rw [iAt_drop, iAt_drop, iAt_drop, List.length_drop]
  simp only [Nat.add_assoc]
  by_cases h : t.length ≤ a + j
  · rw [if_pos (by omega), if_pos h]
  · rw [if_neg (by omega), if_neg h]
    have h2 : (j + 2 < t.length - a) = (a + (j + 2) < t.length) := by rw [eq_iff_iff]; omega
    simp only [h2]
theorem uN_cases (t : List Int) (i : Nat) : uN t i = 0 ∨ uN t i = 1 ∨ uN t i = 3 := by
  unfold uN
  repeat' split
  all_goals simp

set_option maxRecDepth 100000 in
set_option maxHeartbeats 2000000 in
theorem uri_any (q : Option Addr) (t : List Int) (n c i : Nat) (w : World) (hl : n = t.length) (hn : t.length ≤ 1099511627776) (hi : i ≤ 1099511627776) (hI : Is w q t) :
    Calls Tryd.prog 41 #[.slice q n c, .int .i64 i] w fun e w' => e = .returned (.int .i64 (uN t i : Nat)) ∧ w' = w := by
  subst hl
  have hn2 : (t.length : Int) ≤ 1099511627776 := by omega
  obtain ⟨V, hV⟩ : ∃ V, uN t i = V := ⟨_, rfl⟩
  rw [hV]
  unfold uN at hV
  by_cases h0 : i < t.length
  · rw [if_neg (by omega)] at hV
    have h0' : (i : Int) < t.length := by omega
    have h0'' : ¬ (t.length : Int) ≤ i := by omega
    obtain ⟨b, o, rfl, hu⟩ := hI.at (by omega)
    have c0 := hu i h0
    have WD := rword_any (iAt t i)
    have AM := fun w => among_any (iAt t i) ⟨#[35, 59, 47, 63, 58, 64, 38, 61, 43, 36, 44, 95, 46, 33, 126, 42, 39, 40, 41, 91, 93]⟩ w (by decide)
    rw [has_uri] at AM
    cases hs : uriP (iAt t i) with
    | true =>
      rw [hs] at hV
      rw [if_pos rfl] at hV
      subst hV
      unfold uriP at hs
      generalize wordP (iAt t i) = y at WD hs
      generalize otherP (iAt t i) = z at AM hs
      generalize iAt t i = x at c0 WD AM
      clear hu hI
      cases y with
      | true =>
        go_enter Tryd.func41, Tryd.ntmps41
        go_wp2_with (first | (go_at_call 44; refine (WD _).mono ?_; rintro e w ⟨rfl, rfl⟩))
        go_ret
        exact ⟨rfl, rfl⟩
      | false =>
        obtain rfl : z = true := by simpa using hs
        go_enter Tryd.func41, Tryd.ntmps41
        go_wp2_with (first | (go_at_call 44; refine (WD _).mono ?_; rintro e w ⟨rfl, rfl⟩) | (go_at_call 45; refine (AM _).mono ?_; rintro e w ⟨rfl, rfl⟩))
        go_ret
        exact ⟨rfl, rfl⟩
    | false =>
      rw [hs] at hV
      rw [if_neg (by simp)] at hV
      unfold uriP at hs
      have hw : wordP (iAt t i) = false := by cases h : wordP (iAt t i) <;> simp_all
      have ho : otherP (iAt t i) = false := by cases h : otherP (iAt t i) <;> simp_all
      rw [hw] at WD
      rw [ho] at AM
      clear hs hw ho
      by_cases h3 : iAt t i = 37
      · by_cases h2 : i + 2 < t.length
        · have h2' : (i : Int) + 2 < t.length := by omega
          have c1 := hu (i + 1) (by omega)
          have c2 := hu (i + 2) (by omega)
          have X1 := rhex_any (iAt t (i + 1))
          have X2 := rhex_any (iAt t (i + 2))
          have hV1 : (if hexOk (iAt t (i + 1)) = true ∧ hexOk (iAt t (i + 2)) = true then 3 else 0) = V := by rw [← hV]; simp [h2, h3]
          have hV2 : Hid _ := hV1
          clear hV1
          rw [h3] at c0 WD AM
          clear hu hI hV
          unfold hexOk at hV2
          simp only [decide_eq_true_eq] at hV2
          generalize iAt t (i + 1) = x1 at c1 X1 hV2
          generalize iAt t (i + 2) = x2 at c2 X2 hV2
          generalize hexP x1 = y1 at X1 hV2
          generalize hexP x2 = y2 at X2 hV2
          by_cases h4 : 0 ≤ y1
          · by_cases h5 : 0 ≤ y2
            · have := hV2.out
              rw [if_pos ⟨h4, h5⟩] at this
              subst this
              go_enter Tryd.func41, Tryd.ntmps41
              go_wp2_with fail
              refine (WD _).mono ?_; rintro e w ⟨rfl, rfl⟩
              go_wp2_with fail
              refine (AM _).mono ?_; rintro e w ⟨rfl, rfl⟩
              go_wp2_with fail
              refine (X1 _).mono ?_; rintro e w ⟨rfl, rfl⟩
              go_wp2_with fail
              refine (X2 _).mono ?_; rintro e w ⟨rfl, rfl⟩
              go_wp2
              go_ret
              exact ⟨rfl, rfl⟩
            · have := hV2.out
              rw [if_neg (fun h => h5 h.2)] at this
              subst this
              go_enter Tryd.func41, Tryd.ntmps41
              go_wp2_with fail
              refine (WD _).mono ?_; rintro e w ⟨rfl, rfl⟩
              go_wp2_with fail
              refine (AM _).mono ?_; rintro e w ⟨rfl, rfl⟩
              go_wp2_with fail
              refine (X1 _).mono ?_; rintro e w ⟨rfl, rfl⟩
              go_wp2_with fail
              refine (X2 _).mono ?_; rintro e w ⟨rfl, rfl⟩
              go_wp2
              go_ret
              exact ⟨rfl, rfl⟩
          · have := hV2.out
            rw [if_neg (fun h => h4 h.1)] at this
            subst this
            go_enter Tryd.func41, Tryd.ntmps41
            go_wp2_with fail
            refine (WD _).mono ?_; rintro e w ⟨rfl, rfl⟩
            go_wp2_with fail
            refine (AM _).mono ?_; rintro e w ⟨rfl, rfl⟩
            go_wp2_with fail
            refine (X1 _).mono ?_; rintro e w ⟨rfl, rfl⟩
            go_wp2
            go_ret
            exact ⟨rfl, rfl⟩
        · rw [if_neg (fun h => h2 h.2.1)] at hV
          subst hV
          have h2' : ¬ (i : Int) + 2 < t.length := by omega
          rw [h3] at c0 WD AM
          clear hu hI
          go_enter Tryd.func41, Tryd.ntmps41
          go_wp2_with (first | (go_at_call 44; refine (WD _).mono ?_; rintro e w ⟨rfl, rfl⟩) | (go_at_call 45; refine (AM _).mono ?_; rintro e w ⟨rfl, rfl⟩))
          go_ret
          exact ⟨rfl, rfl⟩
      · rw [if_neg (fun h => h3 h.1)] at hV
        subst hV
        have h3' : (iAt t i == 37) = false := by simpa using h3
        generalize iAt t i = x at c0 WD AM h3'
        clear hu hI h3
        go_enter Tryd.func41, Tryd.ntmps41
        go_wp2_with (first | (go_at_call 44; refine (WD _).mono ?_; rintro e w ⟨rfl, rfl⟩) | (go_at_call 45; refine (AM _).mono ?_; rintro e w ⟨rfl, rfl⟩))
        go_ret
        exact ⟨rfl, rfl⟩
  · rw [if_pos (by omega)] at hV
    subst hV
    have h0' : (t.length : Int) ≤ i := by omega
    go_enter Tryd.func41, Tryd.ntmps41
    go_wp2
    go_ret
    exact ⟨rfl, rfl⟩
end Go.Proofs.YtjfeamfchgcblaaDoor
