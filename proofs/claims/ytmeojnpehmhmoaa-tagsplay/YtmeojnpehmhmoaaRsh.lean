/- Short, and the document's own. The document's Begins, words and Short. -/
import Derived.Test.YtmeojnpehmhmoaaWho
import Derived.Test.YtmeojnpehmhmoaaVal
set_option linter.all false
set_option maxRecDepth 100000
namespace Go.Proofs.Ytmeojnpehmhmoaa
open Go.RowKit Go.Shelf Go.Lib

def exS : ByteArray := ⟨#[33]⟩
def exxS : ByteArray := ⟨#[33, 33]⟩
def ltS : ByteArray := ⟨#[60]⟩
def shoP (s : ByteArray) : Option ByteArray :=
  if (begB s yamlS && wordsB (s.extract 18 s.size)) = true then some (exxS ++ s.extract 18 s.size)
  else if (begB s exS && wordsB (s.extract 1 s.size)) = true then some s
  else if validB s = true then some (ltS ++ s) else none
theorem addX (a b : ByteArray) (ha : a.size ≤ 1000000) (hb : b.size ≤ 1000000) (w : World) : (Op.stringOp .add a b).run Try.prog w = .ok (.string (a ++ b)) w := run_string_add_sum w a b (by omega)
theorem beg_size {s p : ByteArray} (h : begB s p = true) : p.size ≤ s.size := by unfold begB at h; simp at h; exact h.1
theorem cut_yes {s p : ByteArray} (h : begB s p = true) : cutP s p = s.extract p.size s.size := by unfold cutP; rw [if_pos h]
theorem cut_no {s p : ByteArray} (h : begB s p = false) : cutP s p = s := by unfold cutP; rw [h]; rfl

set_option maxHeartbeats 1600000 in
theorem Short_any (s : ByteArray) (w : World) (hs : s.size ≤ 100000) :
    Calls Try.prog 11 #[.string s] w fun e w' => e = .returned (optV (shoP s)) ∧ Below w.heap.size w w' := by
  have hB := Below.refl w.heap.size w
  have hs25 : s.size ≤ 1000000 := by omega
  have VA := fun W => Valid_any s W (by omega)
  have VE : decide (0 < s.size ∧ runE (uN (zs s.data.toList)) s.size 0 = s.size) = validB s := rfl
  rw [VE] at VA
  clear VE
  cases hy : begB s yamlS with
  | true =>
    have hys := beg_size hy
    have e18 : yamlS.size = 18 := rfl
    rw [e18] at hys
    have FY2 := hy
    have FY1 := cut_yes hy
    rw [e18] at FY1
    cases hwy : wordsB (s.extract 18 s.size) with
    | true =>
      have FW1 := hwy
      have hR : shoP s = some (exxS ++ s.extract 18 s.size) := by unfold shoP; rw [hy, hwy]; rfl
      rw [hR]
      have AD := addX exxS (s.extract 18 s.size) (by decide) (by simp; omega)
      unfold exxS yamlS optV at *
      simp only [Option.getD, Option.isSome]
      clear VA hR hwy hy
      generalize s.extract 18 s.size = r at *
      generalize ({ data := #[33, 33] } ++ r : ByteArray) = z at *
      go_enter Try.func11, Try.ntmps11
      go_wp2_with (first | (go_at_call 25; refine (cut_any s _ _ hs25).mono ?_; rintro e w1 ⟨he, rfl⟩; simp only [FY1, FY2] at he; subst he) | (go_at_call 26; refine (isWords_any _ _).mono ?_; rintro e w2 ⟨he, hb2⟩; simp only [FW1] at he; subst he; replace hB := hB.trans (hb2.mono hB.size); clear hb2))
      go_ret2
      exact ⟨rfl, hB⟩
    | false =>
      have FW1 := hwy
      have hF : (begB s yamlS && wordsB (s.extract 18 s.size)) = false := by rw [hy, hwy]; rfl
      clear hwy
      generalize s.extract 18 s.size = r at FW1 FY1
      cases hx : begB s exS with
      | true =>
        have hxs := beg_size hx
        have e1 : exS.size = 1 := rfl
        rw [e1] at hxs
        have FX2 := hx
        have FX1 := cut_yes hx
        rw [e1] at FX1
        cases hwx : wordsB (s.extract 1 s.size) with
        | true =>
          have FW2 := hwx
          have hR : shoP s = some s := by unfold shoP; rw [hF, hx, hwx]; rfl
          rw [hR]
          unfold yamlS exS optV at *
          simp only [Option.getD, Option.isSome]
          clear VA hR hF hwx hx hys hy
          generalize s.extract 1 s.size = r1 at *
          go_enter Try.func11, Try.ntmps11
          go_wp2_with (first | (go_at_call 25; refine (cut_any s _ _ hs25).mono ?_; rintro e w1 ⟨he, rfl⟩; simp only [FY1, FY2, FX1, FX2] at he; subst he) | (go_at_call 26; refine (isWords_any _ _).mono ?_; rintro e w2 ⟨he, hb2⟩; simp only [FW1, FW2] at he; subst he; replace hB := hB.trans (hb2.mono hB.size); clear hb2))
          go_ret2
          exact ⟨rfl, hB⟩
        | false =>
          have FW2 := hwx
          have hF2 : (begB s exS && wordsB (s.extract 1 s.size)) = false := by rw [hx, hwx]; rfl
          cases hv : validB s with
          | true =>
            rw [hv] at VA
            have hR : shoP s = some (ltS ++ s) := by unfold shoP; rw [hF, hF2, hv]; rfl
            rw [hR]
            have AD := addX ltS s (by decide) (by omega)
            unfold ltS yamlS exS optV at *
            simp only [Option.getD, Option.isSome]
            clear hR hF hF2 hv hwx hx hy hys
            generalize s.extract 1 s.size = r1 at *
            generalize (({ data := #[60] } : ByteArray) ++ s : ByteArray) = z at *
            go_enter Try.func11, Try.ntmps11
            go_wp2_with (first | (go_at_call 25; refine (cut_any s _ _ hs25).mono ?_; rintro e w1 ⟨he, rfl⟩; simp only [FY1, FY2, FX1, FX2] at he; subst he) | (go_at_call 26; refine (isWords_any _ _).mono ?_; rintro e w2 ⟨he, hb2⟩; simp only [FW1, FW2] at he; subst he; replace hB := hB.trans (hb2.mono hB.size); clear hb2) | (go_at_call 19; refine (VA _).mono ?_; rintro e w4 ⟨rfl, hb4⟩; replace hB := hB.trans (hb4.mono hB.size); clear hb4))
            go_ret2
            exact ⟨rfl, hB⟩
          | false =>
            rw [hv] at VA
            have hR : shoP s = none := by unfold shoP; rw [hF, hF2, hv]; rfl
            rw [hR]
            unfold yamlS exS optV at *
            simp only [Option.getD, Option.isSome]
            clear hR hF hF2 hv hwx hx hy hys
            generalize s.extract 1 s.size = r1 at *
            go_enter Try.func11, Try.ntmps11
            go_wp2_with (first | (go_at_call 25; refine (cut_any s _ _ hs25).mono ?_; rintro e w1 ⟨he, rfl⟩; simp only [FY1, FY2, FX1, FX2] at he; subst he) | (go_at_call 26; refine (isWords_any _ _).mono ?_; rintro e w2 ⟨he, hb2⟩; simp only [FW1, FW2] at he; subst he; replace hB := hB.trans (hb2.mono hB.size); clear hb2) | (go_at_call 19; refine (VA _).mono ?_; rintro e w4 ⟨rfl, hb4⟩; replace hB := hB.trans (hb4.mono hB.size); clear hb4))
            go_ret2
            exact ⟨rfl, hB⟩
      | false =>
        have FX2 := hx
        have FX1 := cut_no hx
        have hF2 : (begB s exS && wordsB (s.extract 1 s.size)) = false := by rw [hx]; rfl
        cases hv : validB s with
        | true =>
          rw [hv] at VA
          have hR : shoP s = some (ltS ++ s) := by unfold shoP; rw [hF, hF2, hv]; rfl
          rw [hR]
          have AD := addX ltS s (by decide) (by omega)
          unfold ltS yamlS exS optV at *
          simp only [Option.getD, Option.isSome]
          clear hR hF hF2 hv hx hy hys
          generalize (({ data := #[60] } : ByteArray) ++ s : ByteArray) = z at *
          go_enter Try.func11, Try.ntmps11
          go_wp2_with (first | (go_at_call 25; refine (cut_any s _ _ hs25).mono ?_; rintro e w1 ⟨he, rfl⟩; simp only [FY1, FY2, FX1, FX2] at he; subst he) | (go_at_call 26; refine (isWords_any _ _).mono ?_; rintro e w2 ⟨he, hb2⟩; simp only [FW1] at he; subst he; replace hB := hB.trans (hb2.mono hB.size); clear hb2) | (go_at_call 19; refine (VA _).mono ?_; rintro e w4 ⟨rfl, hb4⟩; replace hB := hB.trans (hb4.mono hB.size); clear hb4))
          go_ret2
          exact ⟨rfl, hB⟩
        | false =>
          rw [hv] at VA
          have hR : shoP s = none := by unfold shoP; rw [hF, hF2, hv]; rfl
          rw [hR]
          unfold yamlS exS optV at *
          simp only [Option.getD, Option.isSome]
          clear hR hF hF2 hv hx hy hys
          go_enter Try.func11, Try.ntmps11
          go_wp2_with (first | (go_at_call 25; refine (cut_any s _ _ hs25).mono ?_; rintro e w1 ⟨he, rfl⟩; simp only [FY1, FY2, FX1, FX2] at he; subst he) | (go_at_call 26; refine (isWords_any _ _).mono ?_; rintro e w2 ⟨he, hb2⟩; simp only [FW1] at he; subst he; replace hB := hB.trans (hb2.mono hB.size); clear hb2) | (go_at_call 19; refine (VA _).mono ?_; rintro e w4 ⟨rfl, hb4⟩; replace hB := hB.trans (hb4.mono hB.size); clear hb4))
          go_ret2
          exact ⟨rfl, hB⟩
  | false =>
    have FY2 := hy
    have FY1 := cut_no hy
    have hF : (begB s yamlS && wordsB (s.extract 18 s.size)) = false := by rw [hy]; rfl
    have hys := trivial
    cases hx : begB s exS with
    | true =>
      have hxs := beg_size hx
      have e1 : exS.size = 1 := rfl
      rw [e1] at hxs
      have FX2 := hx
      have FX1 := cut_yes hx
      rw [e1] at FX1
      cases hwx : wordsB (s.extract 1 s.size) with
      | true =>
        have FW2 := hwx
        have hR : shoP s = some s := by unfold shoP; rw [hF, hx, hwx]; rfl
        rw [hR]
        unfold yamlS exS optV at *
        simp only [Option.getD, Option.isSome]
        clear VA hR hF hwx hx hys hy
        generalize s.extract 1 s.size = r1 at *
        go_enter Try.func11, Try.ntmps11
        go_wp2_with (first | (go_at_call 25; refine (cut_any s _ _ hs25).mono ?_; rintro e w1 ⟨he, rfl⟩; simp only [FY1, FY2, FX1, FX2] at he; subst he) | (go_at_call 26; refine (isWords_any _ _).mono ?_; rintro e w2 ⟨he, hb2⟩; simp only [FW2] at he; subst he; replace hB := hB.trans (hb2.mono hB.size); clear hb2))
        go_ret2
        exact ⟨rfl, hB⟩
      | false =>
        have FW2 := hwx
        have hF2 : (begB s exS && wordsB (s.extract 1 s.size)) = false := by rw [hx, hwx]; rfl
        cases hv : validB s with
        | true =>
          rw [hv] at VA
          have hR : shoP s = some (ltS ++ s) := by unfold shoP; rw [hF, hF2, hv]; rfl
          rw [hR]
          have AD := addX ltS s (by decide) (by omega)
          unfold ltS yamlS exS optV at *
          simp only [Option.getD, Option.isSome]
          clear hR hF hF2 hv hwx hx hy hys
          generalize s.extract 1 s.size = r1 at *
          generalize (({ data := #[60] } : ByteArray) ++ s : ByteArray) = z at *
          go_enter Try.func11, Try.ntmps11
          go_wp2_with (first | (go_at_call 25; refine (cut_any s _ _ hs25).mono ?_; rintro e w1 ⟨he, rfl⟩; simp only [FY1, FY2, FX1, FX2] at he; subst he) | (go_at_call 26; refine (isWords_any _ _).mono ?_; rintro e w2 ⟨he, hb2⟩; simp only [FW2] at he; subst he; replace hB := hB.trans (hb2.mono hB.size); clear hb2) | (go_at_call 19; refine (VA _).mono ?_; rintro e w4 ⟨rfl, hb4⟩; replace hB := hB.trans (hb4.mono hB.size); clear hb4))
          go_ret2
          exact ⟨rfl, hB⟩
        | false =>
          rw [hv] at VA
          have hR : shoP s = none := by unfold shoP; rw [hF, hF2, hv]; rfl
          rw [hR]
          unfold yamlS exS optV at *
          simp only [Option.getD, Option.isSome]
          clear hR hF hF2 hv hwx hx hy hys
          generalize s.extract 1 s.size = r1 at *
          go_enter Try.func11, Try.ntmps11
          go_wp2_with (first | (go_at_call 25; refine (cut_any s _ _ hs25).mono ?_; rintro e w1 ⟨he, rfl⟩; simp only [FY1, FY2, FX1, FX2] at he; subst he) | (go_at_call 26; refine (isWords_any _ _).mono ?_; rintro e w2 ⟨he, hb2⟩; simp only [FW2] at he; subst he; replace hB := hB.trans (hb2.mono hB.size); clear hb2) | (go_at_call 19; refine (VA _).mono ?_; rintro e w4 ⟨rfl, hb4⟩; replace hB := hB.trans (hb4.mono hB.size); clear hb4))
          go_ret2
          exact ⟨rfl, hB⟩
    | false =>
      have FX2 := hx
      have FX1 := cut_no hx
      have hF2 : (begB s exS && wordsB (s.extract 1 s.size)) = false := by rw [hx]; rfl
      cases hv : validB s with
      | true =>
        rw [hv] at VA
        have hR : shoP s = some (ltS ++ s) := by unfold shoP; rw [hF, hF2, hv]; rfl
        rw [hR]
        have AD := addX ltS s (by decide) (by omega)
        unfold ltS yamlS exS optV at *
        simp only [Option.getD, Option.isSome]
        clear hR hF hF2 hv hx hy hys
        generalize (({ data := #[60] } : ByteArray) ++ s : ByteArray) = z at *
        go_enter Try.func11, Try.ntmps11
        go_wp2_with (first | (go_at_call 25; refine (cut_any s _ _ hs25).mono ?_; rintro e w1 ⟨he, rfl⟩; simp only [FY1, FY2, FX1, FX2] at he; subst he) | (go_at_call 19; refine (VA _).mono ?_; rintro e w4 ⟨rfl, hb4⟩; replace hB := hB.trans (hb4.mono hB.size); clear hb4))
        go_ret2
        exact ⟨rfl, hB⟩
      | false =>
        rw [hv] at VA
        have hR : shoP s = none := by unfold shoP; rw [hF, hF2, hv]; rfl
        rw [hR]
        unfold yamlS exS optV at *
        simp only [Option.getD, Option.isSome]
        clear hR hF hF2 hv hx hy hys
        go_enter Try.func11, Try.ntmps11
        go_wp2_with (first | (go_at_call 25; refine (cut_any s _ _ hs25).mono ?_; rintro e w1 ⟨he, rfl⟩; simp only [FY1, FY2, FX1, FX2] at he; subst he) | (go_at_call 19; refine (VA _).mono ?_; rintro e w4 ⟨rfl, hb4⟩; replace hB := hB.trans (hb4.mono hB.size); clear hb4))
        go_ret2
        exact ⟨rfl, hB⟩
end Go.Proofs.Ytmeojnpehmhmoaa
set_option linter.all false
set_option maxRecDepth 100000
namespace Go.Proofs.Ytmeojnpehmhmoaa
open Go.RowKit Go.Shelf Go.Lib

set_option maxHeartbeats 1000000 in
theorem rBegins_any (s p : ByteArray) (w : World) (hs : s.size ≤ 1000000) :
    Calls Try.prog 27 #[.string s, .string p] w fun e w' => e = .returned (.bool (begB s p)) ∧ w' = w := by
  by_cases h1 : p.size ≤ s.size
  · have h2 : (p.size : Int) ≤ s.size := by omega
    go_enter Try.func27, Try.ntmps27
    go_wp2
    all_goals go_ret
    all_goals (refine ⟨?_, rfl⟩; unfold begB; rw [decide_eq_true h1]; simp_all)
  · have h2 : ¬ (p.size : Int) ≤ s.size := by omega
    go_enter Try.func27, Try.ntmps27
    go_wp2
    all_goals go_ret
    all_goals (refine ⟨?_, rfl⟩; unfold begB; rw [decide_eq_false h1]; simp_all)

def rwdB (s : ByteArray) : Bool := decide (∀ j (h : j < s.size), wordP (s[j].toNat : Int) = true) && !(s.toList.isEmpty)
set_option maxHeartbeats 1000000 in
theorem rwords_any (s : ByteArray) (w : World) (hs : s.size ≤ 1000000) :
    Calls Try.prog 28 #[.string s] w fun e w' => e = .returned (.bool (rwdB s)) ∧ w' = w := by
  go_enter Try.func28, Try.ntmps28
  go_wp2
  go_loop [3] (fun i => ∃ k : Nat, k ≤ s.size ∧ i = .int .i64 k ∧ Hid (∀ j (h : j < s.size), j < k → wordP (s[j].toNat : Int) = true)) (fun i => s.size - (RowKit.intOf i).toNat)
  case atStart => exact ⟨0, Nat.zero_le _, rfl, fun j _ hj => by omega⟩
  case round =>
    obtain ⟨k, hk, rfl, hno⟩ := hrel
    by_cases hlt : k < s.size
    · have hwb := wrap_byte s[k]
      have RW := rword_any (s[k].toNat : Int) w
      cases hv : wordP (s[k].toNat : Int) with
      | false =>
        rw [hv] at RW
        have HR : Hid (rwdB s = false) := by
          show rwdB s = false
          unfold rwdB
          rw [decide_eq_false (fun h => by rw [h k hlt] at hv; cases hv)]
          rfl
        clear hno
        go_wp2_with (first | (go_at_call 45; refine RW.mono ?_; rintro e w' ⟨rfl, rfl⟩))
        go_ret
        exact ⟨ret_bool HR.out.symm, rfl⟩
      | true =>
        rw [hv] at RW
        have HN : Hid (∀ j (h : j < s.size), j < k + 1 → wordP (s[j].toNat : Int) = true) := fun j h hj => by
          by_cases e : j = k
          · subst e; exact hv
          · exact hno.out j h (by omega)
        clear hno hv
        go_wp2_with (first | (go_at_call 45; refine RW.mono ?_; rintro e w' ⟨rfl, rfl⟩))
        go_round
        case rel => exact ⟨k + 1, by omega, by go_num, HN.out⟩
        case measure => simp [RowKit.intOf]; omega
    · obtain rfl : k = s.size := by omega
      have HR : Hid (rwdB s = !(s.toList.isEmpty)) := by
        show rwdB s = !(s.toList.isEmpty)
        unfold rwdB
        rw [decide_eq_true (fun j h => hno.out j h h)]
        rfl
      clear hno
      go_wp2
      go_ret
      exact ⟨ret_bool HR.out.symm, rfl⟩

/-- ASCII texts are told byte by byte. -/
theorem rnS_ascii (s : ByteArray) (h : ∀ j (h : j < s.size), s[j].toNat < 128) : ∀ f p, s.size - p ≤ f → rnS s p = (zs s.data.toList).drop p := by
  intro f
  induction f with
  | zero =>
    intro p hp
    rw [rnS_stop (by omega), List.drop_eq_nil_of_le (by rw [zs_len]; simp; omega)]
  | succ f ih =>
    intro p hp
    by_cases hlt : p < s.size
    · rw [rnS_step hlt, decode_ascii s p hlt (h p hlt)]
      dsimp only
      rw [ih (p + 1) (by omega)]
      have hl : p < (zs s.data.toList).length := by rw [zs_len]; simpa using hlt
      rw [List.drop_eq_getElem_cons hl]
      congr 1
      simp [zs]
      rfl
    · rw [rnS_stop hlt, List.drop_eq_nil_of_le (by rw [zs_len]; simp; omega)]
theorem rnS_asc {s : ByteArray} (h : ∀ j (h : j < s.size), s[j].toNat < 128) : rnS s 0 = zs s.data.toList := by
  rw [rnS_ascii s h _ 0 (Nat.le_refl _)]; rfl
/-- A byte that is not ASCII is told by a code point that is none. -/
theorem rnS_high (s : ByteArray) : ∀ f p, s.size - p ≤ f → (∃ j, ∃ h : j < s.size, p ≤ j ∧ 128 ≤ s[j].toNat) → ∃ c ∈ rnS s p, 128 ≤ c := by
  intro f
  induction f with
  | zero =>
    rintro p hp ⟨j, hj, h1, h2⟩
    omega
  | succ f ih =>
    rintro p hp ⟨j, hj, h1, h2⟩
    have hlt : p < s.size := by omega
    rw [rnS_step hlt]
    by_cases ha : (s[p]'hlt).toNat < 128
    · rw [decode_ascii s p hlt ha]
      dsimp only
      have hne : j ≠ p := by rintro rfl; omega
      obtain ⟨c, hc, h3⟩ := ih (p + 1) (by omega) ⟨j, hj, by omega, h2⟩
      exact ⟨c, List.mem_cons_of_mem _ hc, h3⟩
    · have := (decode_high s p hlt (by omega)).1
      exact ⟨_, List.mem_cons_self .., by omega⟩
theorem word_low {c : Int} (h : wordP c = true) : 0 ≤ c ∧ c < 128 := by
  unfold wordP at h
  have := of_decide_eq_true h
  omega
theorem words_eq (s : ByteArray) : wordsB s = rwdB s := by
  unfold wordsB rwdB
  congr 1
  by_cases h : ∀ j (h : j < s.size), s[j].toNat < 128
  · rw [rnS_asc h, Bool.eq_iff_iff, List.all_eq_true, decide_eq_true_iff]
    constructor
    · intro h1 j hj
      exact h1 _ (by
        unfold zs
        refine List.mem_map.2 ⟨s[j], ?_, rfl⟩
        show s.data[j] ∈ s.data.toList
        simp)
    · intro h1 x hx
      unfold zs at hx
      obtain ⟨y, hy, rfl⟩ := List.mem_map.1 hx
      obtain ⟨j, hj, rfl⟩ := List.mem_iff_getElem.1 hy
      exact h1 j (by simpa using hj)
  · have h' : ∃ j, ∃ h : j < s.size, 128 ≤ s[j].toNat := by
      apply Classical.byContradiction
      intro hc
      refine h fun j hj => ?_
      apply Classical.byContradiction
      intro h2
      exact hc ⟨j, hj, by omega⟩
    obtain ⟨j, hj, h2⟩ := h'
    obtain ⟨c, hc, h3⟩ := rnS_high s _ 0 (Nat.le_refl _) ⟨j, hj, Nat.zero_le _, h2⟩
    have e1 : (rnS s 0).all wordP = false := by
      rw [List.all_eq_false]
      exact ⟨c, hc, fun hw => by have := word_low hw; omega⟩
    rw [e1, eq_comm, decide_eq_false_iff_not]
    intro hA
    have := word_low (hA j hj)
    omega
theorem valid_doc (s : ByteArray) : rvP s.data.toList = validB s := by
  rw [valid_eq]
  unfold validB
  simp
end Go.Proofs.Ytmeojnpehmhmoaa
