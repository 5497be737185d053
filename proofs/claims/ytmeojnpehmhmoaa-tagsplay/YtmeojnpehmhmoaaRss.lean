/- The document's Short. -/
import Derived.Test.YtmeojnpehmhmoaaRsh
set_option linter.all false
set_option maxRecDepth 100000
namespace Go.Proofs.Ytmeojnpehmhmoaa
open Go.RowKit Go.Shelf Go.Lib

set_option maxHeartbeats 1600000 in
theorem rShort_any (s : ByteArray) (w : World) (hs : s.size ≤ 100000) :
    Calls Try.prog 12 #[.string s] w fun e w' => e = .returned (optV (shoP s)) ∧ Below w.heap.size w w' := by
  have hB := Below.refl w.heap.size w
  have hs25 : s.size ≤ 1000000 := by omega
  have VA := fun W => rValid_any s W (by omega)
  rw [valid_doc] at VA
  cases hy : begB s yamlS with
  | true =>
    have hys := beg_size hy
    have e18 : yamlS.size = 18 := rfl
    rw [e18] at hys
    have FY2 := hy
    have FY1 := cut_yes hy
    rw [e18] at FY1
    have hy2 : (18 : Int) ≤ s.size := by omega
    cases hwy : wordsB (s.extract 18 s.size) with
    | true =>
      have FW1 := hwy
      have hR : shoP s = some (exxS ++ s.extract 18 s.size) := by unfold shoP; rw [hy, hwy]; rfl
      rw [hR]
      have AD := addX exxS (s.extract 18 s.size) (by decide) (by simp; omega)
      unfold exxS yamlS optV at *
      simp only [Option.getD, Option.isSome]
      clear VA hR hwy hy
      generalize ({ data := #[33, 33] } ++ s.extract 18 s.size : ByteArray) = z at *
      go_enter Try.func12, Try.ntmps12
      go_wp2_with (first | (go_at_call 27; refine (rBegins_any s _ _ hs25).mono ?_; rintro e w1 ⟨he, rfl⟩; simp only [FY2] at he; subst he) | (go_at_call 28; refine (rwords_any _ _ (by simp; omega)).mono ?_; rintro e w2 ⟨he, rfl⟩; simp only [← words_eq, FW1] at he; subst he))
      go_ret2
      exact ⟨rfl, hB⟩
    | false =>
      have FW1 := hwy
      have hF : (begB s yamlS && wordsB (s.extract 18 s.size)) = false := by rw [hy, hwy]; rfl
      clear hwy
      cases hx : begB s exS with
      | true =>
        have hxs := beg_size hx
        have e1 : exS.size = 1 := rfl
        rw [e1] at hxs
        have FX2 := hx
        have FX1 := cut_yes hx
        rw [e1] at FX1
        have hx2 : (1 : Int) ≤ s.size := by omega
        cases hwx : wordsB (s.extract 1 s.size) with
        | true =>
          have FW2 := hwx
          have hR : shoP s = some s := by unfold shoP; rw [hF, hx, hwx]; rfl
          rw [hR]
          unfold yamlS exS optV at *
          simp only [Option.getD, Option.isSome]
          clear VA hR hF hwx hx hys hy
          go_enter Try.func12, Try.ntmps12
          go_wp2_with (first | (go_at_call 27; refine (rBegins_any s _ _ hs25).mono ?_; rintro e w1 ⟨he, rfl⟩; simp only [FY2, FX2] at he; subst he) | (go_at_call 28; refine (rwords_any _ _ (by simp; omega)).mono ?_; rintro e w2 ⟨he, rfl⟩; simp only [← words_eq, FW1, FW2] at he; subst he))
          go_ret2
          exact ⟨rfl, hB⟩
        | false =>
          have FW2 := hwx
          have hF2 : (begB s exS && wordsB (s.extract 1 s.size)) = false := by rw [hx, hwx]; rfl
          cases hv : validB s with
          | true =>
            rw [hv] at VA
            have hR : shoP s = some (ltS ++ s) := by unfold shoP; rw [hF, hF2, hv]; rfl
            rw [hR]
            have AD := addX ltS s (by decide) (by omega)
            unfold ltS yamlS exS optV at *
            simp only [Option.getD, Option.isSome]
            clear hR hF hF2 hv hwx hx hy hys
            generalize (({ data := #[60] } : ByteArray) ++ s : ByteArray) = z at *
            go_enter Try.func12, Try.ntmps12
            go_wp2_with (first | (go_at_call 27; refine (rBegins_any s _ _ hs25).mono ?_; rintro e w1 ⟨he, rfl⟩; simp only [FY2, FX2] at he; subst he) | (go_at_call 28; refine (rwords_any _ _ (by simp; omega)).mono ?_; rintro e w2 ⟨he, rfl⟩; simp only [← words_eq, FW1, FW2] at he; subst he) | (go_at_call 13; refine (VA _).mono ?_; rintro e w4 ⟨rfl, hb4⟩; replace hB := hB.trans (hb4.mono hB.size); clear hb4))
            go_ret2
            exact ⟨rfl, hB⟩
          | false =>
            rw [hv] at VA
            have hR : shoP s = none := by unfold shoP; rw [hF, hF2, hv]; rfl
            rw [hR]
            unfold yamlS exS optV at *
            simp only [Option.getD, Option.isSome]
            clear hR hF hF2 hv hwx hx hy hys
            go_enter Try.func12, Try.ntmps12
            go_wp2_with (first | (go_at_call 27; refine (rBegins_any s _ _ hs25).mono ?_; rintro e w1 ⟨he, rfl⟩; simp only [FY2, FX2] at he; subst he) | (go_at_call 28; refine (rwords_any _ _ (by simp; omega)).mono ?_; rintro e w2 ⟨he, rfl⟩; simp only [← words_eq, FW1, FW2] at he; subst he) | (go_at_call 13; refine (VA _).mono ?_; rintro e w4 ⟨rfl, hb4⟩; replace hB := hB.trans (hb4.mono hB.size); clear hb4))
            go_ret2
            exact ⟨rfl, hB⟩
      | false =>
        have FX2 := hx
        have FX1 := cut_no hx
        have hF2 : (begB s exS && wordsB (s.extract 1 s.size)) = false := by rw [hx]; rfl
        cases hv : validB s with
        | true =>
          rw [hv] at VA
          have hR : shoP s = some (ltS ++ s) := by unfold shoP; rw [hF, hF2, hv]; rfl
          rw [hR]
          have AD := addX ltS s (by decide) (by omega)
          unfold ltS yamlS exS optV at *
          simp only [Option.getD, Option.isSome]
          clear hR hF hF2 hv hx hy hys
          generalize (({ data := #[60] } : ByteArray) ++ s : ByteArray) = z at *
          go_enter Try.func12, Try.ntmps12
          go_wp2_with (first | (go_at_call 27; refine (rBegins_any s _ _ hs25).mono ?_; rintro e w1 ⟨he, rfl⟩; simp only [FY2, FX2] at he; subst he) | (go_at_call 28; refine (rwords_any _ _ (by simp; omega)).mono ?_; rintro e w2 ⟨he, rfl⟩; simp only [← words_eq, FW1] at he; subst he) | (go_at_call 13; refine (VA _).mono ?_; rintro e w4 ⟨rfl, hb4⟩; replace hB := hB.trans (hb4.mono hB.size); clear hb4))
          go_ret2
          exact ⟨rfl, hB⟩
        | false =>
          rw [hv] at VA
          have hR : shoP s = none := by unfold shoP; rw [hF, hF2, hv]; rfl
          rw [hR]
          unfold yamlS exS optV at *
          simp only [Option.getD, Option.isSome]
          clear hR hF hF2 hv hx hy hys
          go_enter Try.func12, Try.ntmps12
          go_wp2_with (first | (go_at_call 27; refine (rBegins_any s _ _ hs25).mono ?_; rintro e w1 ⟨he, rfl⟩; simp only [FY2, FX2] at he; subst he) | (go_at_call 28; refine (rwords_any _ _ (by simp; omega)).mono ?_; rintro e w2 ⟨he, rfl⟩; simp only [← words_eq, FW1] at he; subst he) | (go_at_call 13; refine (VA _).mono ?_; rintro e w4 ⟨rfl, hb4⟩; replace hB := hB.trans (hb4.mono hB.size); clear hb4))
          go_ret2
          exact ⟨rfl, hB⟩
  | false =>
    have FY2 := hy
    have FY1 := cut_no hy
    have hF : (begB s yamlS && wordsB (s.extract 18 s.size)) = false := by rw [hy]; rfl
    have hys := trivial
    cases hx : begB s exS with
    | true =>
      have hxs := beg_size hx
      have e1 : exS.size = 1 := rfl
      rw [e1] at hxs
      have FX2 := hx
      have FX1 := cut_yes hx
      rw [e1] at FX1
      have hx2 : (1 : Int) ≤ s.size := by omega
      cases hwx : wordsB (s.extract 1 s.size) with
      | true =>
        have FW2 := hwx
        have hR : shoP s = some s := by unfold shoP; rw [hF, hx, hwx]; rfl
        rw [hR]
        unfold yamlS exS optV at *
        simp only [Option.getD, Option.isSome]
        clear VA hR hF hwx hx hys hy
        go_enter Try.func12, Try.ntmps12
        go_wp2_with (first | (go_at_call 27; refine (rBegins_any s _ _ hs25).mono ?_; rintro e w1 ⟨he, rfl⟩; simp only [FY2, FX2] at he; subst he) | (go_at_call 28; refine (rwords_any _ _ (by simp; omega)).mono ?_; rintro e w2 ⟨he, rfl⟩; simp only [← words_eq, FW2] at he; subst he))
        go_ret2
        exact ⟨rfl, hB⟩
      | false =>
        have FW2 := hwx
        have hF2 : (begB s exS && wordsB (s.extract 1 s.size)) = false := by rw [hx, hwx]; rfl
        cases hv : validB s with
        | true =>
          rw [hv] at VA
          have hR : shoP s = some (ltS ++ s) := by unfold shoP; rw [hF, hF2, hv]; rfl
          rw [hR]
          have AD := addX ltS s (by decide) (by omega)
          unfold ltS yamlS exS optV at *
          simp only [Option.getD, Option.isSome]
          clear hR hF hF2 hv hwx hx hy hys
          generalize (({ data := #[60] } : ByteArray) ++ s : ByteArray) = z at *
          go_enter Try.func12, Try.ntmps12
          go_wp2_with (first | (go_at_call 27; refine (rBegins_any s _ _ hs25).mono ?_; rintro e w1 ⟨he, rfl⟩; simp only [FY2, FX2] at he; subst he) | (go_at_call 28; refine (rwords_any _ _ (by simp; omega)).mono ?_; rintro e w2 ⟨he, rfl⟩; simp only [← words_eq, FW2] at he; subst he) | (go_at_call 13; refine (VA _).mono ?_; rintro e w4 ⟨rfl, hb4⟩; replace hB := hB.trans (hb4.mono hB.size); clear hb4))
          go_ret2
          exact ⟨rfl, hB⟩
        | false =>
          rw [hv] at VA
          have hR : shoP s = none := by unfold shoP; rw [hF, hF2, hv]; rfl
          rw [hR]
          unfold yamlS exS optV at *
          simp only [Option.getD, Option.isSome]
          clear hR hF hF2 hv hwx hx hy hys
          go_enter Try.func12, Try.ntmps12
          go_wp2_with (first | (go_at_call 27; refine (rBegins_any s _ _ hs25).mono ?_; rintro e w1 ⟨he, rfl⟩; simp only [FY2, FX2] at he; subst he) | (go_at_call 28; refine (rwords_any _ _ (by simp; omega)).mono ?_; rintro e w2 ⟨he, rfl⟩; simp only [← words_eq, FW2] at he; subst he) | (go_at_call 13; refine (VA _).mono ?_; rintro e w4 ⟨rfl, hb4⟩; replace hB := hB.trans (hb4.mono hB.size); clear hb4))
          go_ret2
          exact ⟨rfl, hB⟩
    | false =>
      have FX2 := hx
      have FX1 := cut_no hx
      have hF2 : (begB s exS && wordsB (s.extract 1 s.size)) = false := by rw [hx]; rfl
      cases hv : validB s with
      | true =>
        rw [hv] at VA
        have hR : shoP s = some (ltS ++ s) := by unfold shoP; rw [hF, hF2, hv]; rfl
        rw [hR]
        have AD := addX ltS s (by decide) (by omega)
        unfold ltS yamlS exS optV at *
        simp only [Option.getD, Option.isSome]
        clear hR hF hF2 hv hx hy hys
        generalize (({ data := #[60] } : ByteArray) ++ s : ByteArray) = z at *
        go_enter Try.func12, Try.ntmps12
        go_wp2_with (first | (go_at_call 27; refine (rBegins_any s _ _ hs25).mono ?_; rintro e w1 ⟨he, rfl⟩; simp only [FY2, FX2] at he; subst he) | (go_at_call 13; refine (VA _).mono ?_; rintro e w4 ⟨rfl, hb4⟩; replace hB := hB.trans (hb4.mono hB.size); clear hb4))
        go_ret2
        exact ⟨rfl, hB⟩
      | false =>
        rw [hv] at VA
        have hR : shoP s = none := by unfold shoP; rw [hF, hF2, hv]; rfl
        rw [hR]
        unfold yamlS exS optV at *
        simp only [Option.getD, Option.isSome]
        clear hR hF hF2 hv hx hy hys
        go_enter Try.func12, Try.ntmps12
        go_wp2_with (first | (go_at_call 27; refine (rBegins_any s _ _ hs25).mono ?_; rintro e w1 ⟨he, rfl⟩; simp only [FY2, FX2] at he; subst he) | (go_at_call 13; refine (VA _).mono ?_; rintro e w4 ⟨rfl, hb4⟩; replace hB := hB.trans (hb4.mono hB.size); clear hb4))
        go_ret2
        exact ⟨rfl, hB⟩
end Go.Proofs.Ytmeojnpehmhmoaa
