/- How arguments that are slices of ints, and of such slices, are opened: what they hold, wherever they lie. -/
import Derived.Test.YtgmcomfeggidnaaItr
import Derived.WalkKit
import Derived.ProofKit
import Derived.OpenShut
import Derived.ChangeOld
import Derived.Below
import Derived.Deep.Matrix
set_option linter.unusedVariables false
set_option linter.unusedSimpArgs false
namespace Go.Proofs.Ytgmcomfeggidnaa
open Go.ChangeShapes Go.WideShapes Go.ChangeAt Go.RowKit

theorem own : ownKnob Try.prog.godebug = none := by kernel_rfl
theorem laidOut : laidOutB Try.prog = true := by kernel_rfl

/-- The cells of a slice of ints that came in. -/
theorem is_cells {W : World} {x : Addr} {len cap : Nat} {zs : List Int} (hl : len ≤ cap) (hz : zs.length = cap) (hcell : ∀ i, i < cap → W.cell? (x.add i) = some (.int .i64 (zs.getD i 0))) : Is W (some x) (zs.take len) := by
  by_cases h0 : len = 0
  · subst h0; exact .inl (by simp)
  · obtain ⟨b, off, spot⟩ := x
    have hc := hcell 0 (by omega)
    have hspot : spot = none := by simpa [Addr.add] using World.cell?_spot hc
    subst hspot
    refine .inr ⟨b, off, rfl, fun j hj => ?_⟩
    simp at hj
    have hj' : j < zs.length := by omega
    have hcj := hcell j (by omega)
    rw [add_plain] at hcj
    rw [hcj]
    simp [iAt, List.getD, List.getElem?_take, hj, hj']

/-- A slice of ints that came in. -/
theorem ints_open {H : Type} {enc : TypeId × Value → H} {W : World} {a : Option Addr} {len cap : Nat} {d : DataW H} {p : List MemPlace}
    (h : DataW.Trod enc Try.prog W 0 (fun _ => true) true 22 (.slice a len cap) d p) : ∃ t : List Int, t.length = len ∧ len ≤ cap ∧ cap ≤ maxLen ∧ Is W a t ∧ ∀ n ∈ t, (Lit.int .i64 n).wf = true := by
  obtain ⟨fuel, hf⟩ := h
  rcases open_ints Try.underlying22 Try.underlying3 (by kernel_rfl) hf with ⟨hcs, _⟩ | ⟨x, l, c, zs, hcs, _, hl, hm, hz, _, hcell, hwz⟩
  · simp [Value.cells] at hcs
    obtain ⟨rfl, rfl, rfl⟩ := hcs
    exact ⟨[], rfl, Nat.le_refl _, by unfold maxLen; omega, .inl rfl, fun n hn => by cases hn⟩
  · simp [Value.cells] at hcs
    obtain ⟨rfl, rfl, rfl⟩ := hcs
    simp only [if_true] at hz
    exact ⟨zs.take len, by simp; omega, hl, hm, is_cells hl hz (fun i hi => hcell i (by omega)), fun n hn => hwz n (List.mem_of_mem_take hn)⟩

/-- A slice of slices of ints that came in. -/
theorem rows_open {H : Type} {enc : TypeId × Value → H} {W : World} {a : Option Addr} {len cap : Nat} {d : DataW H} {p : List MemPlace}
    (h : DataW.Trod enc Try.prog W 0 (fun _ => true) true 41 (.slice a len cap) d p) : ∃ R : List Row, R.length = len ∧ len ≤ maxLen ∧ Mt W a R := by
  obtain ⟨fuel, hf⟩ := h
  rcases Deep.open_int_rows Try.underlying41 Try.underlying22 Try.underlying3 (by kernel_rfl) (by kernel_rfl) hf with ⟨hcs, _⟩ | ⟨x, l, c, A, L, C, Z, hcs, _, hl, hm, _, hx⟩
  · simp [Value.cells] at hcs
    obtain ⟨rfl, rfl, rfl⟩ := hcs
    exact ⟨[], rfl, by unfold maxLen; omega, ⟨fun j r hr => by simp at hr, .inl rfl⟩⟩
  · simp [Value.cells] at hcs
    obtain ⟨rfl, rfl, rfl⟩ := hcs
    have hr : ∀ (j : Nat) (r : Row), ((List.range len).map fun r => (⟨A r, (Z r).take (L r), C r⟩ : Row))[j]? = some r → j < len ∧ r = ⟨A j, (Z j).take (L j), C j⟩ := by
      intro j r h
      rw [List.getElem?_map] at h
      cases hj : (List.range len)[j]? with
      | none => rw [hj] at h; cases h
      | some k =>
        rw [hj] at h
        cases h
        obtain ⟨h1, h2⟩ := List.getElem?_eq_some_iff.1 hj
        simp at h1 h2
        subst h2
        exact ⟨h1, rfl⟩
    have hL : ∀ j, j < len → ((Z j).take (L j)).length = L j := fun j hj => by
      obtain ⟨-, h1, -, h2, -⟩ := hx j (by omega)
      rw [List.length_take]; omega
    refine ⟨(List.range len).map fun r => ⟨A r, (Z r).take (L r), C r⟩, by simp, by omega, ?_, ?_⟩
    · intro j r h
      obtain ⟨hj, rfl⟩ := hr j r h
      obtain ⟨h0, h1, h2, h3, h4, h5, h6⟩ := hx j (by omega)
      refine ⟨by show ((Z j).take (L j)).length ≤ C j; rw [hL j hj]; exact h1, h2, ?_⟩
      cases hA : A j with
      | none =>
        have := h5 hA
        exact .inl (List.eq_nil_of_length_eq_zero (by rw [hL j hj]; omega))
      | some a' => exact is_cells h1 h3 ((h6 a' hA).2)
    · by_cases h0 : len = 0
      · subst h0; exact .inl rfl
      · obtain ⟨b, off, spot⟩ := x
        have hc := (hx 0 (by omega)).1
        have hspot : spot = none := by simpa [Addr.add] using World.cell?_spot hc
        subst hspot
        refine .inr ⟨b, off, rfl, fun j r h => ?_⟩
        obtain ⟨hj, rfl⟩ := hr j r h
        have := (hx j (by omega)).1
        rw [add_plain] at this
        show _ = some (Value.slice (A j) ((Z j).take (L j)).length (C j))
        rw [hL j hj]
        exact this
end Go.Proofs.Ytgmcomfeggidnaa
