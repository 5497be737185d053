/- DecimalWrong's walk. -/
import Derived.Test.YtkhkgoimcbnpaaaWrg
set_option linter.unusedVariables false
set_option linter.unusedSimpArgs false
namespace Go.Proofs.Ytkhkgoimcbnpaaa
open Go.RowKit

def textsV : Array Value := (texts.map Value.string).toArray
theorem lit_eq : (#[Value.string ⟨#[]⟩, Value.string ⟨#[43]⟩, Value.string ⟨#[45]⟩, Value.string ⟨#[46]⟩, Value.string ⟨#[45, 46]⟩, Value.string ⟨#[101, 49]⟩, Value.string ⟨#[49, 101]⟩, Value.string ⟨#[49, 101, 43]⟩, Value.string ⟨#[49, 46, 101]⟩, Value.string ⟨#[48, 111]⟩, Value.string ⟨#[48, 120]⟩, Value.string ⟨#[48, 111, 56]⟩, Value.string ⟨#[48, 120, 103]⟩, Value.string ⟨#[45, 48, 120, 49]⟩, Value.string ⟨#[43, 48, 111, 55]⟩, Value.string ⟨#[49, 95, 48, 48, 48]⟩, Value.string ⟨#[49, 32]⟩, Value.string ⟨#[32, 49]⟩, Value.string ⟨#[43, 43, 49]⟩, Value.string ⟨#[49, 46, 50, 46, 51]⟩, Value.string ⟨#[49, 101, 49, 46, 53]⟩, Value.string ⟨#[49, 101, 49, 50, 51, 52, 53, 54, 55, 56, 57, 48]⟩, Value.string ⟨#[46, 110, 97, 110, 49]⟩, Value.string ⟨#[45, 46, 110, 97, 110]⟩, Value.string ⟨#[46, 105, 110, 102, 105, 110, 105, 116, 121]⟩, Value.string ⟨#[49, 46]⟩, Value.string ⟨#[46, 53]⟩, Value.string ⟨#[49, 101, 53]⟩, Value.string ⟨#[45, 49, 46, 53, 69, 45, 51]⟩, Value.string ⟨#[46, 105, 110, 102]⟩, Value.string ⟨#[45, 46, 73, 78, 70]⟩, Value.string ⟨#[43, 46, 73, 110, 102]⟩, Value.string ⟨#[46, 78, 97, 78]⟩, Value.string ⟨#[48, 46, 48]⟩, Value.string ⟨#[45, 48, 101, 57]⟩] : Array Value) = textsV := rfl
theorem lit_at (i : Nat) (h : i < 35) (hq : i < ([Value.string ⟨#[]⟩, Value.string ⟨#[43]⟩, Value.string ⟨#[45]⟩, Value.string ⟨#[46]⟩, Value.string ⟨#[45, 46]⟩, Value.string ⟨#[101, 49]⟩, Value.string ⟨#[49, 101]⟩, Value.string ⟨#[49, 101, 43]⟩, Value.string ⟨#[49, 46, 101]⟩, Value.string ⟨#[48, 111]⟩, Value.string ⟨#[48, 120]⟩, Value.string ⟨#[48, 111, 56]⟩, Value.string ⟨#[48, 120, 103]⟩, Value.string ⟨#[45, 48, 120, 49]⟩, Value.string ⟨#[43, 48, 111, 55]⟩, Value.string ⟨#[49, 95, 48, 48, 48]⟩, Value.string ⟨#[49, 32]⟩, Value.string ⟨#[32, 49]⟩, Value.string ⟨#[43, 43, 49]⟩, Value.string ⟨#[49, 46, 50, 46, 51]⟩, Value.string ⟨#[49, 101, 49, 46, 53]⟩, Value.string ⟨#[49, 101, 49, 50, 51, 52, 53, 54, 55, 56, 57, 48]⟩, Value.string ⟨#[46, 110, 97, 110, 49]⟩, Value.string ⟨#[45, 46, 110, 97, 110]⟩, Value.string ⟨#[46, 105, 110, 102, 105, 110, 105, 116, 121]⟩, Value.string ⟨#[49, 46]⟩, Value.string ⟨#[46, 53]⟩, Value.string ⟨#[49, 101, 53]⟩, Value.string ⟨#[45, 49, 46, 53, 69, 45, 51]⟩, Value.string ⟨#[46, 105, 110, 102]⟩, Value.string ⟨#[45, 46, 73, 78, 70]⟩, Value.string ⟨#[43, 46, 73, 110, 102]⟩, Value.string ⟨#[46, 78, 97, 78]⟩, Value.string ⟨#[48, 46, 48]⟩, Value.string ⟨#[45, 48, 101, 57]⟩] : List Value).length) : ([Value.string ⟨#[]⟩, Value.string ⟨#[43]⟩, Value.string ⟨#[45]⟩, Value.string ⟨#[46]⟩, Value.string ⟨#[45, 46]⟩, Value.string ⟨#[101, 49]⟩, Value.string ⟨#[49, 101]⟩, Value.string ⟨#[49, 101, 43]⟩, Value.string ⟨#[49, 46, 101]⟩, Value.string ⟨#[48, 111]⟩, Value.string ⟨#[48, 120]⟩, Value.string ⟨#[48, 111, 56]⟩, Value.string ⟨#[48, 120, 103]⟩, Value.string ⟨#[45, 48, 120, 49]⟩, Value.string ⟨#[43, 48, 111, 55]⟩, Value.string ⟨#[49, 95, 48, 48, 48]⟩, Value.string ⟨#[49, 32]⟩, Value.string ⟨#[32, 49]⟩, Value.string ⟨#[43, 43, 49]⟩, Value.string ⟨#[49, 46, 50, 46, 51]⟩, Value.string ⟨#[49, 101, 49, 46, 53]⟩, Value.string ⟨#[49, 101, 49, 50, 51, 52, 53, 54, 55, 56, 57, 48]⟩, Value.string ⟨#[46, 110, 97, 110, 49]⟩, Value.string ⟨#[45, 46, 110, 97, 110]⟩, Value.string ⟨#[46, 105, 110, 102, 105, 110, 105, 116, 121]⟩, Value.string ⟨#[49, 46]⟩, Value.string ⟨#[46, 53]⟩, Value.string ⟨#[49, 101, 53]⟩, Value.string ⟨#[45, 49, 46, 53, 69, 45, 51]⟩, Value.string ⟨#[46, 105, 110, 102]⟩, Value.string ⟨#[45, 46, 73, 78, 70]⟩, Value.string ⟨#[43, 46, 73, 110, 102]⟩, Value.string ⟨#[46, 78, 97, 78]⟩, Value.string ⟨#[48, 46, 48]⟩, Value.string ⟨#[45, 48, 101, 57]⟩] : List Value)[i]'hq = .string (texts.getD i ⟨#[]⟩) := by
  have e : ([Value.string ⟨#[]⟩, Value.string ⟨#[43]⟩, Value.string ⟨#[45]⟩, Value.string ⟨#[46]⟩, Value.string ⟨#[45, 46]⟩, Value.string ⟨#[101, 49]⟩, Value.string ⟨#[49, 101]⟩, Value.string ⟨#[49, 101, 43]⟩, Value.string ⟨#[49, 46, 101]⟩, Value.string ⟨#[48, 111]⟩, Value.string ⟨#[48, 120]⟩, Value.string ⟨#[48, 111, 56]⟩, Value.string ⟨#[48, 120, 103]⟩, Value.string ⟨#[45, 48, 120, 49]⟩, Value.string ⟨#[43, 48, 111, 55]⟩, Value.string ⟨#[49, 95, 48, 48, 48]⟩, Value.string ⟨#[49, 32]⟩, Value.string ⟨#[32, 49]⟩, Value.string ⟨#[43, 43, 49]⟩, Value.string ⟨#[49, 46, 50, 46, 51]⟩, Value.string ⟨#[49, 101, 49, 46, 53]⟩, Value.string ⟨#[49, 101, 49, 50, 51, 52, 53, 54, 55, 56, 57, 48]⟩, Value.string ⟨#[46, 110, 97, 110, 49]⟩, Value.string ⟨#[45, 46, 110, 97, 110]⟩, Value.string ⟨#[46, 105, 110, 102, 105, 110, 105, 116, 121]⟩, Value.string ⟨#[49, 46]⟩, Value.string ⟨#[46, 53]⟩, Value.string ⟨#[49, 101, 53]⟩, Value.string ⟨#[45, 49, 46, 53, 69, 45, 51]⟩, Value.string ⟨#[46, 105, 110, 102]⟩, Value.string ⟨#[45, 46, 73, 78, 70]⟩, Value.string ⟨#[43, 46, 73, 110, 102]⟩, Value.string ⟨#[46, 78, 97, 78]⟩, Value.string ⟨#[48, 46, 48]⟩, Value.string ⟨#[45, 48, 101, 57]⟩] : List Value) = texts.map Value.string := rfl
  have hl : i < texts.length := h
  rw [List.getElem_of_eq e hq, List.getElem_map, List.getD_eq_getElem?_getD, List.getElem?_eq_getElem hl]
  rfl
theorem textsV_at {i : Nat} (h : i < 35) : textsV[i]? = some (.string (texts.getD i ⟨#[]⟩)) := by
  unfold textsV
  rw [List.getElem?_toArray, List.getElem?_map]
  have hl : i < texts.length := h
  rw [List.getD_eq_getElem?_getD, List.getElem?_eq_getElem hl]
  rfl

set_option maxRecDepth 100000 in
set_option maxHeartbeats 1000000 in
theorem wrong_walk (i : Nat) (w : World) (hi : i < 35) : Calls Try.prog 6 #[.int .i64 i] w fun e w' => e = .returned (.bool true) ∧ Below w.heap.size w w' := by
  have h0 : ¬ (i : Int) < 0 := by omega
  have h1 : ¬ (35 : Int) ≤ (i : Int) := by omega
  have h2 : (i : Int) < 35 := by omega
  have LA := fun hq => lit_at i hi hq
  have TA := textsV_at hi
  have hok := wrong_at hi
  generalize texts.getD i ⟨#[]⟩ = s at LA TA hok
  have IN := fun w => Int_any s w
  rw [wrong_int hok] at IN
  obtain ⟨ha, hs⟩ := wrong_asc hok
  have FL := fun w => Float_plain s w (by omega) (.inr ha)
  have hfl := wrong_flt hok
  unfold zV at IN hfl
  clear hok ha hs
  go_enter Try.func6, Try.ntmps6
  go_wp2_with fail
  refine (alive_any _).mono ?_
  rintro e w1 ⟨rfl, hB1⟩
  have hz : w.heap.size ≤ w1.heap.size := hB1.size
  have HL : Hid (∀ hq, _ = _) := LA
  have HT : Hid (textsV[i]? = some (.string s)) := TA
  clear LA TA
  go_wp2_with fail
  rw [HL.out, lit_eq]
  refine (IN _).mono ?_
  rintro e w2 ⟨rfl, hB2⟩
  rw [size1] at hB2
  have c2 : w2.cell? ⟨w1.heap.size, i, none⟩ = some (.string s) := by
    rw [hB2.cell (Nat.lt_succ_self _), ← HT.out]
    simp
  have hw2 : Below w.heap.size w w2 := (hB1.alloc hz _).trans (hB2.mono (by omega))
  have hz2 : w1.heap.size + 1 ≤ w2.heap.size := by have := hB2.size; rwa [size1] at this
  clear hB2 IN HL
  have c3 : (w2.alloc zC).cell? ⟨w1.heap.size, i, none⟩ = some (.string s) := by
    rw [← c2]
    exact ((Below.refl w2.heap.size w2).alloc (Nat.le_refl _) zC).cell (show w1.heap.size < w2.heap.size by omega)
  clear c2
  unfold zC at c3
  generalize textsV = tv at *
  go_wp2_with fail
  refine (FL _).mono ?_
  rintro e w3 ⟨rfl, hB3⟩
  rw [size1] at hB3
  have hw3 : Below w.heap.size w w3 := (hw2.alloc (by omega) _).trans (hB3.mono (by omega))
  clear hB3 FL
  rcases hfl with ⟨h3, b, d, e, x, hV⟩ | ⟨h3, hV⟩
  · rw [hV]
    have h3' : (25 : Int) ≤ i := by omega
    clear hV
    go_wp2
    go_ret
    exact ⟨rfl, hw3.alloc (by have := hw3.size; omega) _⟩
  · rw [hV]
    have h3' : ¬ (25 : Int) ≤ i := by omega
    clear hV
    go_wp2
    go_ret
    exact ⟨ret_bool (by simp; omega), hw3.alloc (by have := hw3.size; omega) _⟩
end Go.Proofs.Ytkhkgoimcbnpaaa
