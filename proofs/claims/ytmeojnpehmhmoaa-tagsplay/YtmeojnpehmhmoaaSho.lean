/- Short, and the document's own. -/
import Derived.Test.YtmeojnpehmhmoaaWho
import Derived.Test.YtmeojnpehmhmoaaVal
set_option linter.all false
set_option maxRecDepth 100000
namespace Go.Proofs.Ytmeojnpehmhmoaa
open Go.RowKit Go.Shelf Go.Lib

def exS : ByteArray := ⟨#[33]⟩
def exxS : ByteArray := ⟨#[33, 33]⟩
def ltS : ByteArray := ⟨#[60]⟩
def shoP (s : ByteArray) : Option ByteArray :=
  if (begB s yamlS && wordsB (s.extract 18 s.size)) = true then some (exxS ++ s.extract 18 s.size)
  else if (begB s exS && wordsB (s.extract 1 s.size)) = true then some s
  else if validB s = true then some (ltS ++ s) else none
theorem addX (a b : ByteArray) (ha : a.size ≤ 1000000) (hb : b.size ≤ 1000000) (w : World) : (Op.stringOp .add a b).run Try.prog w = .ok (.string (a ++ b)) w := run_string_add_sum w a b (by omega)
theorem beg_size {s p : ByteArray} (h : begB s p = true) : p.size ≤ s.size := by unfold begB at h; simp at h; exact h.1
theorem cut_yes {s p : ByteArray} (h : begB s p = true) : cutP s p = s.extract p.size s.size := by unfold cutP; rw [if_pos h]
theorem cut_no {s p : ByteArray} (h : begB s p = false) : cutP s p = s := by unfold cutP; rw [h]; rfl

set_option maxHeartbeats 1600000 in
theorem Short_any (s : ByteArray) (w : World) (hs : s.size ≤ 100000) :
    Calls Try.prog 11 #[.string s] w fun e w' => e = .returned (optV (shoP s)) ∧ Below w.heap.size w w' := by
  have hB := Below.refl w.heap.size w
  have hs25 : s.size ≤ 1000000 := by omega
  have VA := fun W => Valid_any s W (by omega)
  have VE : decide (0 < s.size ∧ runE (uN (zs s.data.toList)) s.size 0 = s.size) = validB s := rfl
  rw [VE] at VA
  clear VE
  cases hy : begB s yamlS with
  | true =>
    have hys := beg_size hy
    have e18 : yamlS.size = 18 := rfl
    rw [e18] at hys
    have FY2 := hy
    have FY1 := cut_yes hy
    rw [e18] at FY1
    cases hwy : wordsB (s.extract 18 s.size) with
    | true =>
      have FW1 := hwy
      have hR : shoP s = some (exxS ++ s.extract 18 s.size) := by unfold shoP; rw [hy, hwy]; rfl
      rw [hR]
      have AD := addX exxS (s.extract 18 s.size) (by decide) (by simp; omega)
      unfold exxS yamlS optV at *
      simp only [Option.getD, Option.isSome]
      clear VA hR hwy hy
      generalize s.extract 18 s.size = r at *
      generalize ({ data := #[33, 33] } ++ r : ByteArray) = z at *
      go_enter Try.func11, Try.ntmps11
      go_wp2_with (first | (go_at_call 25; refine (cut_any s _ _ hs25).mono ?_; rintro e w1 ⟨he, rfl⟩; simp only [FY1, FY2] at he; subst he) | (go_at_call 26; refine (isWords_any _ _).mono ?_; rintro e w2 ⟨he, hb2⟩; simp only [FW1] at he; subst he; replace hB := hB.trans (hb2.mono hB.size); clear hb2))
      go_ret2
      exact ⟨rfl, hB⟩
    | false =>
      have FW1 := hwy
      have hF : (begB s yamlS && wordsB (s.extract 18 s.size)) = false := by rw [hy, hwy]; rfl
      clear hwy
      generalize s.extract 18 s.size = r at FW1 FY1
      cases hx : begB s exS with
      | true =>
        have hxs := beg_size hx
        have e1 : exS.size = 1 := rfl
        rw [e1] at hxs
        have FX2 := hx
        have FX1 := cut_yes hx
        rw [e1] at FX1
        cases hwx : wordsB (s.extract 1 s.size) with
        | true =>
          have FW2 := hwx
          have hR : shoP s = some s := by unfold shoP; rw [hF, hx, hwx]; rfl
          rw [hR]
          unfold yamlS exS optV at *
          simp only [Option.getD, Option.isSome]
          clear VA hR hF hwx hx hys hy
          generalize s.extract 1 s.size = r1 at *
          go_enter Try.func11, Try.ntmps11
          go_wp2_with (first | (go_at_call 25; refine (cut_any s _ _ hs25).mono ?_; rintro e w1 ⟨he, rfl⟩; simp only [FY1, FY2, FX1, FX2] at he; subst he) | (go_at_call 26; refine (isWords_any _ _).mono ?_; rintro e w2 ⟨he, hb2⟩; simp only [FW1, FW2] at he; subst he; replace hB := hB.trans (hb2.mono hB.size); clear hb2))
          go_ret2
          exact ⟨rfl, hB⟩
        | false =>
          have FW2 := hwx
          have hF2 : (begB s exS && wordsB (s.extract 1 s.size)) = false := by rw [hx, hwx]; rfl
          cases hv : validB s with
          | true =>
            rw [hv] at VA
            have hR : shoP s = some (ltS ++ s) := by unfold shoP; rw [hF, hF2, hv]; rfl
            rw [hR]
            have AD := addX ltS s (by decide) (by omega)
            unfold ltS yamlS exS optV at *
            simp only [Option.getD, Option.isSome]
            clear hR hF hF2 hv hwx hx hy hys
            generalize s.extract 1 s.size = r1 at *
            generalize (({ data := #[60] } : ByteArray) ++ s : ByteArray) = z at *
            go_enter Try.func11, Try.ntmps11
            go_wp2_with (first | (go_at_call 25; refine (cut_any s _ _ hs25).mono ?_; rintro e w1 ⟨he, rfl⟩; simp only [FY1, FY2, FX1, FX2] at he; subst he) | (go_at_call 26; refine (isWords_any _ _).mono ?_; rintro e w2 ⟨he, hb2⟩; simp only [FW1, FW2] at he; subst he; replace hB := hB.trans (hb2.mono hB.size); clear hb2) | (go_at_call 19; refine (VA _).mono ?_; rintro e w4 ⟨rfl, hb4⟩; replace hB := hB.trans (hb4.mono hB.size); clear hb4))
            go_ret2
            exact ⟨rfl, hB⟩
          | false =>
            rw [hv] at VA
            have hR : shoP s = none := by unfold shoP; rw [hF, hF2, hv]; rfl
            rw [hR]
            unfold yamlS exS optV at *
            simp only [Option.getD, Option.isSome]
            clear hR hF hF2 hv hwx hx hy hys
            generalize s.extract 1 s.size = r1 at *
            go_enter Try.func11, Try.ntmps11
            go_wp2_with (first | (go_at_call 25; refine (cut_any s _ _ hs25).mono ?_; rintro e w1 ⟨he, rfl⟩; simp only [FY1, FY2, FX1, FX2] at he; subst he) | (go_at_call 26; refine (isWords_any _ _).mono ?_; rintro e w2 ⟨he, hb2⟩; simp only [FW1, FW2] at he; subst he; replace hB := hB.trans (hb2.mono hB.size); clear hb2) | (go_at_call 19; refine (VA _).mono ?_; rintro e w4 ⟨rfl, hb4⟩; replace hB := hB.trans (hb4.mono hB.size); clear hb4))
            go_ret2
            exact ⟨rfl, hB⟩
      | false =>
        have FX2 := hx
        have FX1 := cut_no hx
        have hF2 : (begB s exS && wordsB (s.extract 1 s.size)) = false := by rw [hx]; rfl
        cases hv : validB s with
        | true =>
          rw [hv] at VA
          have hR : shoP s = some (ltS ++ s) := by unfold shoP; rw [hF, hF2, hv]; rfl
          rw [hR]
          have AD := addX ltS s (by decide) (by omega)
          unfold ltS yamlS exS optV at *
          simp only [Option.getD, Option.isSome]
          clear hR hF hF2 hv hx hy hys
          generalize (({ data := #[60] } : ByteArray) ++ s : ByteArray) = z at *
          go_enter Try.func11, Try.ntmps11
          go_wp2_with (first | (go_at_call 25; refine (cut_any s _ _ hs25).mono ?_; rintro e w1 ⟨he, rfl⟩; simp only [FY1, FY2, FX1, FX2] at he; subst he) | (go_at_call 26; refine (isWords_any _ _).mono ?_; rintro e w2 ⟨he, hb2⟩; simp only [FW1] at he; subst he; replace hB := hB.trans (hb2.mono hB.size); clear hb2) | (go_at_call 19; refine (VA _).mono ?_; rintro e w4 ⟨rfl, hb4⟩; replace hB := hB.trans (hb4.mono hB.size); clear hb4))
          go_ret2
          exact ⟨rfl, hB⟩
        | false =>
          rw [hv] at VA
          have hR : shoP s = none := by unfold shoP; rw [hF, hF2, hv]; rfl
          rw [hR]
          unfold yamlS exS optV at *
          simp only [Option.getD, Option.isSome]
          clear hR hF hF2 hv hx hy hys
          go_enter Try.func11, Try.ntmps11
          go_wp2_with (first | (go_at_call 25; refine (cut_any s _ _ hs25).mono ?_; rintro e w1 ⟨he, rfl⟩; simp only [FY1, FY2, FX1, FX2] at he; subst he) | (go_at_call 26; refine (isWords_any _ _).mono ?_; rintro e w2 ⟨he, hb2⟩; simp only [FW1] at he; subst he; replace hB := hB.trans (hb2.mono hB.size); clear hb2) | (go_at_call 19; refine (VA _).mono ?_; rintro e w4 ⟨rfl, hb4⟩; replace hB := hB.trans (hb4.mono hB.size); clear hb4))
          go_ret2
          exact ⟨rfl, hB⟩
  | false =>
    have FY2 := hy
    have FY1 := cut_no hy
    have hF : (begB s yamlS && wordsB (s.extract 18 s.size)) = false := by rw [hy]; rfl
    have hys := trivial
    cases hx : begB s exS with
    | true =>
      have hxs := beg_size hx
      have e1 : exS.size = 1 := rfl
      rw [e1] at hxs
      have FX2 := hx
      have FX1 := cut_yes hx
      rw [e1] at FX1
      cases hwx : wordsB (s.extract 1 s.size) with
      | true =>
        have FW2 := hwx
        have hR : shoP s = some s := by unfold shoP; rw [hF, hx, hwx]; rfl
        rw [hR]
        unfold yamlS exS optV at *
        simp only [Option.getD, Option.isSome]
        clear VA hR hF hwx hx hys hy
        generalize s.extract 1 s.size = r1 at *
        go_enter Try.func11, Try.ntmps11
        go_wp2_with (first | (go_at_call 25; refine (cut_any s _ _ hs25).mono ?_; rintro e w1 ⟨he, rfl⟩; simp only [FY1, FY2, FX1, FX2] at he; subst he) | (go_at_call 26; refine (isWords_any _ _).mono ?_; rintro e w2 ⟨he, hb2⟩; simp only [FW2] at he; subst he; replace hB := hB.trans (hb2.mono hB.size); clear hb2))
        go_ret2
        exact ⟨rfl, hB⟩
      | false =>
        have FW2 := hwx
        have hF2 : (begB s exS && wordsB (s.extract 1 s.size)) = false := by rw [hx, hwx]; rfl
        cases hv : validB s with
        | true =>
          rw [hv] at VA
          have hR : shoP s = some (ltS ++ s) := by unfold shoP; rw [hF, hF2, hv]; rfl
          rw [hR]
          have AD := addX ltS s (by decide) (by omega)
          unfold ltS yamlS exS optV at *
          simp only [Option.getD, Option.isSome]
          clear hR hF hF2 hv hwx hx hy hys
          generalize s.extract 1 s.size = r1 at *
          generalize (({ data := #[60] } : ByteArray) ++ s : ByteArray) = z at *
          go_enter Try.func11, Try.ntmps11
          go_wp2_with (first | (go_at_call 25; refine (cut_any s _ _ hs25).mono ?_; rintro e w1 ⟨he, rfl⟩; simp only [FY1, FY2, FX1, FX2] at he; subst he) | (go_at_call 26; refine (isWords_any _ _).mono ?_; rintro e w2 ⟨he, hb2⟩; simp only [FW2] at he; subst he; replace hB := hB.trans (hb2.mono hB.size); clear hb2) | (go_at_call 19; refine (VA _).mono ?_; rintro e w4 ⟨rfl, hb4⟩; replace hB := hB.trans (hb4.mono hB.size); clear hb4))
          go_ret2
          exact ⟨rfl, hB⟩
        | false =>
          rw [hv] at VA
          have hR : shoP s = none := by unfold shoP; rw [hF, hF2, hv]; rfl
          rw [hR]
          unfold yamlS exS optV at *
          simp only [Option.getD, Option.isSome]
          clear hR hF hF2 hv hwx hx hy hys
          generalize s.extract 1 s.size = r1 at *
          go_enter Try.func11, Try.ntmps11
          go_wp2_with (first | (go_at_call 25; refine (cut_any s _ _ hs25).mono ?_; rintro e w1 ⟨he, rfl⟩; simp only [FY1, FY2, FX1, FX2] at he; subst he) | (go_at_call 26; refine (isWords_any _ _).mono ?_; rintro e w2 ⟨he, hb2⟩; simp only [FW2] at he; subst he; replace hB := hB.trans (hb2.mono hB.size); clear hb2) | (go_at_call 19; refine (VA _).mono ?_; rintro e w4 ⟨rfl, hb4⟩; replace hB := hB.trans (hb4.mono hB.size); clear hb4))
          go_ret2
          exact ⟨rfl, hB⟩
    | false =>
      have FX2 := hx
      have FX1 := cut_no hx
      have hF2 : (begB s exS && wordsB (s.extract 1 s.size)) = false := by rw [hx]; rfl
      cases hv : validB s with
      | true =>
        rw [hv] at VA
        have hR : shoP s = some (ltS ++ s) := by unfold shoP; rw [hF, hF2, hv]; rfl
        rw [hR]
        have AD := addX ltS s (by decide) (by omega)
        unfold ltS yamlS exS optV at *
        simp only [Option.getD, Option.isSome]
        clear hR hF hF2 hv hx hy hys
        generalize (({ data := #[60] } : ByteArray) ++ s : ByteArray) = z at *
        go_enter Try.func11, Try.ntmps11
        go_wp2_with (first | (go_at_call 25; refine (cut_any s _ _ hs25).mono ?_; rintro e w1 ⟨he, rfl⟩; simp only [FY1, FY2, FX1, FX2] at he; subst he) | (go_at_call 19; refine (VA _).mono ?_; rintro e w4 ⟨rfl, hb4⟩; replace hB := hB.trans (hb4.mono hB.size); clear hb4))
        go_ret2
        exact ⟨rfl, hB⟩
      | false =>
        rw [hv] at VA
        have hR : shoP s = none := by unfold shoP; rw [hF, hF2, hv]; rfl
        rw [hR]
        unfold yamlS exS optV at *
        simp only [Option.getD, Option.isSome]
        clear hR hF hF2 hv hx hy hys
        go_enter Try.func11, Try.ntmps11
        go_wp2_with (first | (go_at_call 25; refine (cut_any s _ _ hs25).mono ?_; rintro e w1 ⟨he, rfl⟩; simp only [FY1, FY2, FX1, FX2] at he; subst he) | (go_at_call 19; refine (VA _).mono ?_; rintro e w4 ⟨rfl, hb4⟩; replace hB := hB.trans (hb4.mono hB.size); clear hb4))
        go_ret2
        exact ⟨rfl, hB⟩
end Go.Proofs.Ytmeojnpehmhmoaa
