/- How an argument that is a slice of lines is opened. -/
import Derived.Test.YtgmcomfeggidnaaBase
import Derived.Test.YtgmcomfeggidnaaLns
import Derived.Deep.SlicePairs
set_option linter.unusedVariables false
set_option linter.unusedSimpArgs false
namespace Go.Proofs.Ytgmcomfeggidnaa
open Go.ChangeShapes Go.WideShapes Go.ChangeAt Go.RowKit

theorem lines_open {H : Type} {enc : TypeId × Value → H} {W : World} {a : Option Addr} {len cap : Nat} {d : DataW H} {p : List MemPlace}
    (h : DataW.Trod enc Try.prog W 0 (fun _ => true) true 34 (.slice a len cap) d p) : ∃ L : List Ln, L.length = len ∧ len ≤ maxLen ∧ Ls W a L ∧ ∀ (j : Nat) (x : Ln), L[j]? = some x → (Lit.int .i64 x.n).wf = true := by
  obtain ⟨fuel, hf⟩ := h
  rcases Deep.open_slice_pairs Try.underlying34 Try.underlying44 (by kernel_rfl) rfl rfl (by kernel_rfl) (by kernel_rfl) hf with ⟨hcs, _⟩ | ⟨x, l, c, m, n, V0, V1, D0, D1, P0, P1, hcs, _, hl, hm, hmm, _, hx⟩
  · simp [Value.cells] at hcs
    obtain ⟨rfl, rfl, rfl⟩ := hcs
    exact ⟨[], rfl, by unfold maxLen; omega, ⟨fun j x hr => by simp at hr, .inl rfl⟩, fun j x hr => by simp at hr⟩
  · simp [Value.cells] at hcs
    obtain ⟨rfl, rfl, rfl⟩ := hcs
    simp only [if_true] at hmm
    have each : ∀ i, i < len → ∃ y : Ln, V0 i = .int .i64 y.n ∧ V1 i = .slice y.q y.t.length y.c ∧ y.t.length ≤ y.c ∧ y.c ≤ maxLen ∧ Is W y.q y.t ∧ (Lit.int .i64 y.n).wf = true := by
      intro i hi
      obtain ⟨e0, e1, g0, g1⟩ := hx i (by omega)
      obtain ⟨z, hz, -, hwz⟩ := DataW.trod_int Try.underlying3 g0
      rcases open_ints Try.underlying22 Try.underlying3 (by kernel_rfl) g1 with ⟨hc1, _⟩ | ⟨x1, l1, c1, zs, hc1, _, hl1, hm1, hz1, _, hcell, _⟩
      · refine ⟨⟨z, none, [], 0⟩, by simpa using hz, by simpa using hc1, Nat.le_refl _, Nat.zero_le _, .inl rfl, hwz⟩
      · simp only [if_true] at hz1
        have hlen : (zs.take l1).length = l1 := by rw [List.length_take]; omega
        refine ⟨⟨z, some x1, zs.take l1, c1⟩, by simpa using hz, by simp only [hlen]; simpa using hc1, by simp only [hlen]; exact hl1, hm1, is_cells hl1 hz1 (fun i hi => hcell i (by omega)), hwz⟩
    haveI : Inhabited Ln := ⟨⟨0, none, [], 0⟩⟩
    obtain ⟨Y, hY⟩ := Deep.choose_lt each
    have hr : ∀ (j : Nat) (y : Ln), ((List.range len).map Y)[j]? = some y → j < len ∧ y = Y j := by
      intro j y h
      rw [List.getElem?_map] at h
      cases hj : (List.range len)[j]? with
      | none => rw [hj] at h; cases h
      | some k =>
        rw [hj] at h
        cases h
        obtain ⟨h1, h2⟩ := List.getElem?_eq_some_iff.1 hj
        simp at h1 h2
        subst h2
        exact ⟨h1, rfl⟩
    refine ⟨(List.range len).map Y, by simp, by omega, ⟨fun j y hj => ?_, ?_⟩, fun j y hj => ?_⟩
    · obtain ⟨h1, rfl⟩ := hr j y hj
      obtain ⟨-, -, a1, a2, a3, -⟩ := hY j h1
      exact ⟨a1, a2, a3⟩
    · by_cases h0 : len = 0
      · subst h0; exact .inl rfl
      · obtain ⟨b, off, spot⟩ := x
        have hc := (hx 0 (by omega)).1
        have hspot : spot = none := by simpa [Addr.add] using World.cell?_spot hc
        subst hspot
        refine .inr ⟨b, off, rfl, fun j y hj => ?_⟩
        obtain ⟨h1, rfl⟩ := hr j y hj
        obtain ⟨b1, b2, -⟩ := hY j h1
        obtain ⟨e0, e1, -, -⟩ := hx j (by omega)
        rw [add_plain] at e0 e1
        exact ⟨e0.trans (by rw [b1]), by rw [Nat.add_assoc, e1, b2]⟩
    · obtain ⟨h1, rfl⟩ := hr j y hj
      exact (hY j h1).2.2.2.2.2
end Go.Proofs.Ytgmcomfeggidnaa
