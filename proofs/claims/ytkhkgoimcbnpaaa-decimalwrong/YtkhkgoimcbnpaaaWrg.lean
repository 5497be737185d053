/- The texts of DecimalWrong. -/
import Derived.Test.YtkhkgoimcbnpaaaAliv
set_option linter.unusedVariables false
set_option linter.unusedSimpArgs false
namespace Go.Proofs.Ytkhkgoimcbnpaaa
open Go.RowKit

def texts : List ByteArray := [⟨#[]⟩, ⟨#[43]⟩, ⟨#[45]⟩, ⟨#[46]⟩, ⟨#[45, 46]⟩, ⟨#[101, 49]⟩, ⟨#[49, 101]⟩, ⟨#[49, 101, 43]⟩, ⟨#[49, 46, 101]⟩, ⟨#[48, 111]⟩, ⟨#[48, 120]⟩, ⟨#[48, 111, 56]⟩, ⟨#[48, 120, 103]⟩, ⟨#[45, 48, 120, 49]⟩, ⟨#[43, 48, 111, 55]⟩, ⟨#[49, 95, 48, 48, 48]⟩, ⟨#[49, 32]⟩, ⟨#[32, 49]⟩, ⟨#[43, 43, 49]⟩, ⟨#[49, 46, 50, 46, 51]⟩, ⟨#[49, 101, 49, 46, 53]⟩, ⟨#[49, 101, 49, 50, 51, 52, 53, 54, 55, 56, 57, 48]⟩, ⟨#[46, 110, 97, 110, 49]⟩, ⟨#[45, 46, 110, 97, 110]⟩, ⟨#[46, 105, 110, 102, 105, 110, 105, 116, 121]⟩, ⟨#[49, 46]⟩, ⟨#[46, 53]⟩, ⟨#[49, 101, 53]⟩, ⟨#[45, 49, 46, 53, 69, 45, 51]⟩, ⟨#[46, 105, 110, 102]⟩, ⟨#[45, 46, 73, 78, 70]⟩, ⟨#[43, 46, 73, 110, 102]⟩, ⟨#[46, 78, 97, 78]⟩, ⟨#[48, 46, 48]⟩, ⟨#[45, 48, 101, 57]⟩]
def fltOk (s : ByteArray) : Bool := isInf (restB s) || isNan s || (fltK (restB s) (kE s)).isSome
def wrongOk (i : Nat) (s : ByteArray) : Bool := !okS (bodyOf s) (baseOf s) && asc s && decide (s.size ≤ 100) && (fltOk s == decide (25 ≤ i))
theorem wrong_all : (List.range 35).all (fun i => wrongOk i (texts.getD i ⟨#[]⟩)) = true := by decide +kernel
theorem wrong_at {i : Nat} (h : i < 35) : wrongOk i (texts.getD i ⟨#[]⟩) = true := List.all_eq_true.1 wrong_all i (List.mem_range.2 h)

theorem wrong_int {i : Nat} {s : ByteArray} (h : wrongOk i s = true) : intV s = .tuple #[zV, .bool false] := by
  unfold wrongOk at h
  have h1 : okS (bodyOf s) (baseOf s) = false := by
    cases e : okS (bodyOf s) (baseOf s)
    · rfl
    · rw [e] at h; simp at h
  unfold intV
  rw [h1]
  rfl
theorem wrong_asc {i : Nat} {s : ByteArray} (h : wrongOk i s = true) : asc s = true ∧ s.size ≤ 100 := by
  unfold wrongOk at h
  simp only [Bool.and_eq_true, decide_eq_true_eq] at h
  exact ⟨h.1.1.2, h.1.2⟩
theorem wrong_flt {i : Nat} {s : ByteArray} (h : wrongOk i s = true) : (25 ≤ i ∧ ∃ b d e x, floatV s (kE s) = .tuple #[.agg #[.bool b, .string d, .int .i64 e, .int .i64 x], .bool true]) ∨ (i < 25 ∧ floatV s (kE s) = .tuple #[zV, .bool false]) := by
  unfold wrongOk at h
  simp only [Bool.and_eq_true, beq_iff_eq] at h
  have h2 := h.2
  unfold fltOk at h2
  unfold floatV
  cases a : isInf (restB s)
  · cases b : isNan s
    · rw [a, b] at h2
      cases c : fltK (restB s) (kE s) with
      | none =>
        rw [c] at h2
        right
        have : ¬ 25 ≤ i := by simpa using h2
        exact ⟨by omega, rfl⟩
      | some p =>
        rw [c] at h2
        left
        have : 25 ≤ i := by simpa using h2
        obtain ⟨n, e⟩ := p
        obtain ⟨D, E, hV⟩ := numV_form (negB s) n e
        refine ⟨this, negB s, D, E, 0, ?_⟩
        show Value.tuple #[numV (negB s) n e, .bool true] = _
        rw [hV]
    · rw [a, b] at h2
      left
      have : 25 ≤ i := by simpa using h2
      exact ⟨this, false, _, _, _, rfl⟩
  · rw [a] at h2
    left
    have : 25 ≤ i := by simpa using h2
    exact ⟨this, negB s, _, _, _, rfl⟩
end Go.Proofs.Ytkhkgoimcbnpaaa
