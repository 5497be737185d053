/- TagsBack, as it runs. -/
import Derived.Test.YtmeojnpehmhmoaaBk2
set_option linter.all false
set_option maxRecDepth 100000
namespace Go.Proofs.Ytmeojnpehmhmoaa
open Go.RowKit Go.Shelf Go.Lib

def strS : ByteArray := ⟨#[33, 33, 115, 116, 114]⟩
theorem Whole_str (b : Nat) (w : World) (hc : w.cell? ⟨b, 0, none⟩ = some (.slice none 0 0)) :
    Calls Try.prog 8 #[.pointer (some ⟨b, 0, none⟩), .string ⟨#[33, 33, 115, 116, 114]⟩] w fun e w' => e = .returned (.tuple #[.string ⟨#[116, 97, 103, 58, 121, 97, 109, 108, 46, 111, 114, 103, 44, 50, 48, 48, 50, 58, 115, 116, 114]⟩, .int .i64 0]) ∧ Below w.heap.size w w' := by
  have h := Whole_short b ⟨#[116, 97, 103, 58, 121, 97, 109, 108, 46, 111, 114, 103, 44, 50, 48, 48, 50, 58, 115, 116, 114]⟩ ⟨#[33, 33, 115, 116, 114]⟩ w hc (by decide) (by
    unfold shoP
    rw [words_eq]
    have hb : begB ⟨#[116, 97, 103, 58, 121, 97, 109, 108, 46, 111, 114, 103, 44, 50, 48, 48, 50, 58, 115, 116, 114]⟩ yamlS = true := by
      unfold begB
      rw [tlD, tlD, exT]
      rfl
    have he : (⟨#[116, 97, 103, 58, 121, 97, 109, 108, 46, 111, 114, 103, 44, 50, 48, 48, 50, 58, 115, 116, 114]⟩ : ByteArray).extract 18 (⟨#[116, 97, 103, 58, 121, 97, 109, 108, 46, 111, 114, 103, 44, 50, 48, 48, 50, 58, 115, 116, 114]⟩ : ByteArray).size = ⟨#[115, 116, 114]⟩ := ba_eq (by rw [exD]; rfl)
    have hw : rwdB ⟨#[115, 116, 114]⟩ = true := by
      unfold rwdB
      rw [tlD]
      rw [Bool.and_eq_true]
      refine ⟨decide_eq_true fun j hj => ?_, rfl⟩
      have : j = 0 ∨ j = 1 ∨ j = 2 := by have : (⟨#[115, 116, 114]⟩ : ByteArray).size = 3 := rfl; omega
      rcases this with rfl | rfl | rfl <;> rfl
    rw [he, hw, hb]
    rw [show (true && true) = true from rfl, if_pos rfl]
    congr 1)
  exact h
theorem num_any (x : Int) (w : World) : Calls Try.prog 10 #[.int .i64 x] w fun e w' => e = .returned (.int .i64 x) ∧ w' = w := by
  go_enter Try.func10, Try.ntmps10
  go_wp2
  go_ret
  exact ⟨rfl, rfl⟩
set_option maxHeartbeats 800000 in
theorem alive_any (w : World) : Calls Try.prog 5 #[] w fun e w' => e = .returned (.bool true) ∧ Below w.heap.size w w' := by
  have c0 := (Boxed.new w 27 (.slice none 0 0)).cell
  have hB := (Below.refl w.heap.size w).alloc (Nat.le_refl _) (.cells #[.slice none 0 0] 27)
  have WS := Whole_str w.heap.size _ c0
  clear c0
  go_enter Try.func5, Try.ntmps5
  go_wp2_with (first | (go_at_call 10; refine (num_any _ _).mono ?_; rintro e w' ⟨rfl, rfl⟩) | (go_at_call 8; refine WS.mono ?_; rintro e W1 ⟨rfl, hB1⟩; replace hB := hB.trans (hB1.mono hB.size)))
  go_ret
  exact ⟨rfl, hB⟩
set_option maxHeartbeats 1600000 in
theorem back_law (s : ByteArray) (w : World) :
    Calls Try.prog 4 #[.string s] w fun e w' => e = .returned (.bool true) ∧ Below w.heap.size w w' := by
  have AL := alive_any w
  have hB := Below.refl w.heap.size w
  by_cases h3 : s.size ≤ 300
  · have h3' : ¬ (300 : Int) < s.size := by omega
    have SH := fun W => Short_any s W (by omega)
    have RS := fun W => rShort_any s W (by omega)
    have RV := fun W => rValid_any s W (by omega)
    have e1 := short_valid s
    rw [valid_doc] at RV
    have HW := fun b t W hc (h : shoP s = some t) => Whole_short b s t W hc (by omega) h
    cases ho : shoP s with
    | none =>
      rw [ho] at SH RS e1
      rw [← e1] at RV
      simp only [optV, Option.getD, Option.isSome] at SH RS RV
      clear HW e1 ho
      go_enter Try.func4, Try.ntmps4
      go_wp2_with (first | (go_at_call 5; refine AL.mono ?_; rintro e W1 ⟨rfl, hB1⟩; replace hB := hB.trans (hB1.mono hB.size)) | (go_at_call 11; refine (SH _).mono ?_; rintro e W1 ⟨rfl, hB1⟩; replace hB := hB.trans (hB1.mono hB.size)) | (go_at_call 12; refine (RS _).mono ?_; rintro e W1 ⟨rfl, hB1⟩; replace hB := hB.trans (hB1.mono hB.size)) | (go_at_call 13; refine (RV _).mono ?_; rintro e W1 ⟨rfl, hB1⟩; replace hB := hB.trans (hB1.mono hB.size)))
      all_goals go_ret
      all_goals exact ⟨rfl, hB⟩
    | some t =>
      have WH := fun b W hc => HW b t W hc ho
      rw [ho] at SH RS e1
      rw [← e1] at RV
      simp only [optV, Option.getD, Option.isSome] at SH RS RV
      unfold whoV at WH
      clear HW e1 ho
      go_enter Try.func4, Try.ntmps4
      go_wp2_with (first | (go_at_call 5; refine AL.mono ?_; rintro e W1 ⟨rfl, hB1⟩; replace hB := hB.trans (hB1.mono hB.size)) | (go_at_call 11; refine (SH _).mono ?_; rintro e W1 ⟨rfl, hB1⟩; replace hB := hB.trans (hB1.mono hB.size)) | (go_at_call 12; refine (RS _).mono ?_; rintro e W1 ⟨rfl, hB1⟩; replace hB := hB.trans (hB1.mono hB.size)) | (go_at_call 13; refine (RV _).mono ?_; rintro e W1 ⟨rfl, hB1⟩; replace hB := hB.trans (hB1.mono hB.size)) | (go_at_call 10; refine (num_any _ _).mono ?_; rintro e w' ⟨rfl, rfl⟩) | (go_at_call 8; refine (WH _ _ (Boxed.new _ 27 (.slice none 0 0)).cell).mono ?_; rintro e W2 ⟨rfl, hB2⟩; replace hB := (hB.alloc hB.size (.cells #[.slice none 0 0] 27)).trans (hB2.mono (by simp; have := hB.size; omega))))
      all_goals go_ret
      all_goals exact ⟨rfl, hB⟩
  · have h3' : (300 : Int) < s.size := by omega
    go_enter Try.func4, Try.ntmps4
    go_wp2_with (first | (go_at_call 5; refine AL.mono ?_; rintro e W1 ⟨rfl, hB1⟩))
    go_ret
    exact ⟨rfl, hB1⟩
end Go.Proofs.Ytmeojnpehmhmoaa
