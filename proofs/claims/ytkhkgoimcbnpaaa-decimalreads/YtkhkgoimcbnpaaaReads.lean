/- decimal.Float at whatever text; DecimalReads' walk. -/
import Derived.Test.YtkhkgoimcbnpaaaIdxW
set_option linter.unusedVariables false
set_option linter.unusedSimpArgs false
namespace Go.Proofs.Ytkhkgoimcbnpaaa
open Go.RowKit

theorem Float_any (s : ByteArray) (w : World) (hs : s.size ≤ 100000) :
    Calls Try.prog 10 #[.string s] w fun e w' => e = .returned (floatV s (kE s)) ∧ Below w.heap.size w w' := by
  by_cases h : 8 < (restB s).size ∨ asc s = true
  · exact Float_plain s w hs h
  · have h8 : (restB s).size ≤ 8 := by
      by_cases e : 8 < (restB s).size
      · exact absurd (.inl e) h
      · omega
    have ha : asc s = false := by
      cases e : asc s
      · rfl
      · exact absurd (.inr e) h
    refine (Float_of s w (QE (restB s)) hs (-1) (.inl rfl) (fun K hK => ?_) (fun w => idx_weak (restB s) w h8)).mono ?_
    · rcases hK with rfl | ⟨i, rfl, hi, -⟩
      · exact .inl rfl
      · exact .inr ⟨by omega, by omega⟩
    · rintro e w' ⟨K, hK, rfl, hB⟩
      exact ⟨by rw [floatV_high ha hK], hB⟩

/-- What is answered is four cells, and whether there is a number. -/
theorem int_form (s : ByteArray) : ∃ a b c d e, intV s = .tuple #[.agg #[.bool a, .string b, .int .i64 c, .int .i64 d], .bool e] := by
  unfold intV
  split
  · obtain ⟨D, E, hV⟩ := numV_form (negB s && decide (numB (bodyOf s) (baseOf s) ≠ 0)) (numB (bodyOf s) (baseOf s)) 0
    exact ⟨_, _, _, _, _, by rw [hV]⟩
  · exact ⟨_, _, _, _, _, rfl⟩
theorem float_form (s : ByteArray) (K : Int) : ∃ a b c d e, floatV s K = .tuple #[.agg #[.bool a, .string b, .int .i64 c, .int .i64 d], .bool e] := by
  unfold floatV
  split
  · exact ⟨_, _, _, _, _, rfl⟩
  · split
    · exact ⟨_, _, _, _, _, rfl⟩
    · cases fltK (restB s) K with
      | none => exact ⟨_, _, _, _, _, rfl⟩
      | some p =>
        obtain ⟨n, x⟩ := p
        obtain ⟨D, E, hV⟩ := numV_form (negB s) n x
        exact ⟨_, _, _, _, _, by show Value.tuple #[numV (negB s) n x, .bool true] = _; rw [hV]⟩

theorem cells_on {V W : World} {g : Nat} {c0 c1 c2 c3 : Value} (hB : Below V.heap.size V W) (hg : g < V.heap.size) (k0 : V.cell? ⟨g, 0, none⟩ = some c0) (k1 : V.cell? ⟨g, 1, none⟩ = some c1) (k2 : V.cell? ⟨g, 2, none⟩ = some c2) (k3 : V.cell? ⟨g, 3, none⟩ = some c3) :
    ∀ o, g < (W.alloc o).heap.size ∧ (W.alloc o).cell? ⟨g, 0, none⟩ = some c0 ∧ (W.alloc o).cell? ⟨g, 1, none⟩ = some c1 ∧ (W.alloc o).cell? ⟨g, 2, none⟩ = some c2 ∧ (W.alloc o).cell? ⟨g, 3, none⟩ = some c3 := by
  intro o
  have hz := hB.size
  have hA : Below V.heap.size V (W.alloc o) := hB.alloc hz o
  have hb : ∀ i, (⟨g, i, none⟩ : Addr).block < V.heap.size := fun _ => hg
  exact ⟨by simp; omega, (hA.cell (hb 0)).trans k0, (hA.cell (hb 1)).trans k1, (hA.cell (hb 2)).trans k2, (hA.cell (hb 3)).trans k3⟩
theorem cells_new4 (w : World) (c0 c1 c2 c3 : Value) : w.heap.size < (w.alloc (.cells #[c0, c1, c2, c3] 24)).heap.size ∧ (w.alloc (.cells #[c0, c1, c2, c3] 24)).cell? ⟨w.heap.size, 0, none⟩ = some c0 ∧ (w.alloc (.cells #[c0, c1, c2, c3] 24)).cell? ⟨w.heap.size, 1, none⟩ = some c1 ∧ (w.alloc (.cells #[c0, c1, c2, c3] 24)).cell? ⟨w.heap.size, 2, none⟩ = some c2 ∧ (w.alloc (.cells #[c0, c1, c2, c3] 24)).cell? ⟨w.heap.size, 3, none⟩ = some c3 := by
  simp

set_option maxRecDepth 100000 in
set_option maxHeartbeats 1000000 in
theorem reads_walk (s : ByteArray) (w : World) (h1 : ¬ (300 : Int) < s.size ∨ ((300 : Int) < s.size ∧ ¬ (s.size : Int) < 4990)) (h2 : ¬ (5015 : Int) < s.size) :
    Calls Try.prog 3 #[.string s] w fun e w' => e = .returned (.bool true) ∧ Below w.heap.size w w' := by
  have I1 := fun w => Int_any s w
  have I2 := fun w => rInt_any s w
  have F1 := fun w => Float_any s w (by omega)
  have F2 := fun w => rFloat_any s w (by omega)
  obtain ⟨a0, a1, a2, a3, a4, hI⟩ := int_form s
  obtain ⟨b0, b1, b2, b3, b4, hF⟩ := float_form s (kE s)
  rw [hI] at I1 I2
  rw [hF] at F1 F2
  clear hI hF
  rcases h1 with h1 | ⟨h1, h1'⟩
  all_goals
    go_enter Try.func3, Try.ntmps3
    go_wp2_with fail
    refine (alive_any _).mono ?_
    rintro e w1 ⟨rfl, hB1⟩
    go_wp2_with fail
    refine (I1 _).mono ?_
    rintro e w2 ⟨rfl, hB2⟩
    have hw2 : Below w.heap.size w w2 := hB1.trans (hB2.mono hB1.size)
    clear hB2
    go_wp2_with fail
    have C0 := cells_new4 w2 (.bool a0) (.string a1) (.int .i64 a2) (.int .i64 a3)
    have hV : Below w.heap.size w (w2.alloc (.cells #[.bool a0, .string a1, .int .i64 a2, .int .i64 a3] 24)) := hw2.alloc hw2.size _
    generalize w2.alloc (.cells #[.bool a0, .string a1, .int .i64 a2, .int .i64 a3] 24) = V2 at C0 hV ⊢
    generalize w2.heap.size = g2 at C0 ⊢
    refine (I2 _).mono ?_
    rintro e w3 ⟨rfl, hB3⟩
    have C1 := cells_on hB3 C0.1 C0.2.1 C0.2.2.1 C0.2.2.2.1 C0.2.2.2.2 (.cells #[.bool a0, .string a1, .int .i64 a2, .int .i64 a3] 24)
    have hw3 : Below w.heap.size w w3 := hV.trans (hB3.mono hV.size)
    have D1 := cells_new4 w3 (.bool a0) (.string a1) (.int .i64 a2) (.int .i64 a3)
    have hV3 : Below w.heap.size w (w3.alloc (.cells #[.bool a0, .string a1, .int .i64 a2, .int .i64 a3] 24)) := hw3.alloc hw3.size _
    clear hB3 C0 hV hw2
    go_wp2_with fail
    generalize w3.alloc (.cells #[.bool a0, .string a1, .int .i64 a2, .int .i64 a3] 24) = V3 at C1 D1 hV3 ⊢
    generalize w3.heap.size = g3 at D1 ⊢
    refine (F1 _).mono ?_
    rintro e w4 ⟨rfl, hB4⟩
    have C2 := cells_on hB4 C1.1 C1.2.1 C1.2.2.1 C1.2.2.2.1 C1.2.2.2.2 (.cells #[.bool b0, .string b1, .int .i64 b2, .int .i64 b3] 24)
    have D2 := cells_on hB4 D1.1 D1.2.1 D1.2.2.1 D1.2.2.2.1 D1.2.2.2.2 (.cells #[.bool b0, .string b1, .int .i64 b2, .int .i64 b3] 24)
    have hw4 : Below w.heap.size w w4 := hV3.trans (hB4.mono hV3.size)
    have E2 := cells_new4 w4 (.bool b0) (.string b1) (.int .i64 b2) (.int .i64 b3)
    have hV4 : Below w.heap.size w (w4.alloc (.cells #[.bool b0, .string b1, .int .i64 b2, .int .i64 b3] 24)) := hw4.alloc hw4.size _
    clear hB4 C1 D1 hV3 hw3
    go_wp2_with fail
    generalize w4.alloc (.cells #[.bool b0, .string b1, .int .i64 b2, .int .i64 b3] 24) = V4 at C2 D2 E2 hV4 ⊢
    generalize w4.heap.size = g4 at E2 ⊢
    refine (F2 _).mono ?_
    rintro e w5 ⟨rfl, hB5⟩
    have C3 := fun o => cells_on hB5 C2.1 C2.2.1 C2.2.2.1 C2.2.2.2.1 C2.2.2.2.2 o
    have D3 := fun o => cells_on hB5 D2.1 D2.2.1 D2.2.2.1 D2.2.2.2.1 D2.2.2.2.2 o
    have E3 := fun o => cells_on hB5 E2.1 E2.2.1 E2.2.2.1 E2.2.2.2.1 E2.2.2.2.2 o
    have hw5 : Below w.heap.size w w5 := hV4.trans (hB5.mono hV4.size)
    have c0 := fun o => (C3 o).2.1
    have c1 := fun o => (C3 o).2.2.1
    have c2 := fun o => (C3 o).2.2.2.1
    have c3 := fun o => (C3 o).2.2.2.2
    have d0 := fun o => (D3 o).2.1
    have d1 := fun o => (D3 o).2.2.1
    have d2 := fun o => (D3 o).2.2.2.1
    have d3 := fun o => (D3 o).2.2.2.2
    have e0 := fun o => (E3 o).2.1
    have e1 := fun o => (E3 o).2.2.1
    have e2 := fun o => (E3 o).2.2.2.1
    have e3 := fun o => (E3 o).2.2.2.2
    clear hB5 C2 D2 E2 hV4 hw4 C3 D3 E3 I1 I2 F1 F2
    go_wp2
    go_ret
    exact ⟨rfl, hw5.alloc hw5.size _⟩
end Go.Proofs.Ytkhkgoimcbnpaaa
