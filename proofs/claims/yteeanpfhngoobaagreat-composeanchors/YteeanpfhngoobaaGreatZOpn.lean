/- How an argument that is a slice of events is opened. -/
import Derived.Test.YteeanpfhngoobaaGreatZEvs
import Derived.WalkKit
import Derived.ProofKit
import Derived.OpenShut
import Derived.ChangeOld
import Derived.Below
import Derived.Deep.Slices
set_option linter.unusedVariables false
set_option linter.unusedSimpArgs false
set_option maxRecDepth 100000
namespace Go.Proofs.YteeanpfhngoobaaGreat
open Go.ChangeShapes Go.WideShapes Go.ChangeAt Go.RowKit Go.Shelf

theorem events_open {H : Type} {enc : TypeId × Value → H} {W : World} {a : Option Addr} {len cap : Nat} {d : DataW H} {p : List MemPlace}
    (h : DataW.Trod enc Tryz.prog W 0 (fun _ => true) true 22 (.slice a len cap) d p) : ∃ L : List Ev, L.length = len ∧ len ≤ cap ∧ cap ≤ maxLen ∧ Es W a L := by
  obtain ⟨fuel, hf⟩ := h
  rcases Deep.open_slice Tryz.underlying22 hf with ⟨hcs, _⟩ | ⟨x, l, c, m, n, D, Pl, hcs, _, hl, hm, hmm, _, hx⟩
  · simp [Value.cells] at hcs
    obtain ⟨rfl, rfl, rfl⟩ := hcs
    exact ⟨[], rfl, Nat.le_refl _, by unfold maxLen; omega, .inl rfl⟩
  · simp [Value.cells] at hcs
    obtain ⟨rfl, rfl, rfl⟩ := hcs
    simp only [if_true] at hmm
    have ce : Tryz.prog.cellsOf 46 = 6 := by kernel_rfl
    have each : ∀ i, i < len → ∃ y : Ev, ∀ j v, y.c[j]? = some v → W.cell? (x.add (i * 6 + j)) = some v := by
      intro i hi
      obtain ⟨cs', h1, h2⟩ := hx i (by omega)
      rw [ce] at h1
      obtain ⟨_, hlen, hcell⟩ := World.cells?_some h1
      obtain ⟨xs, k, hk, hxy, _, hxl, hf⟩ := DataW.trod_struct Tryz.underlying46 h2
      match xs, hxl, cs', hlen with
      | [x0, x1, x2, x3, x4, x5], _, [v0, v1, v2, v3, v4, v5], _ =>
        have g0 := hf 0 _ rfl
        have g1 := hf 1 _ rfl
        have g2 := hf 2 _ rfl
        have g3 := hf 3 _ rfl
        have g4 := hf 4 _ rfl
        have g5 := hf 5 _ rfl
        have z3 : Tryz.prog.cellsOf 3 = 1 := by kernel_rfl
        have z9 : Tryz.prog.cellsOf 9 = 1 := by kernel_rfl
        have z4 : Tryz.prog.cellsOf 4 = 1 := by kernel_rfl
        simp [z3, z9, z4] at g0 g1 g2 g3 g4 g5
        obtain ⟨y0, e0, -, -⟩ := DataW.trod_int Tryz.underlying3 g0
        obtain ⟨y1, e1, -, -⟩ := DataW.trod_string Tryz.underlying9 g1
        obtain ⟨y2, e2, -, -⟩ := DataW.trod_string Tryz.underlying9 g2
        obtain ⟨y3, e3, -, -⟩ := DataW.trod_string Tryz.underlying9 g3
        obtain ⟨y4, e4, -, -⟩ := DataW.trod_int Tryz.underlying3 g4
        obtain ⟨y5, e5, -⟩ := DataW.trod_bool Tryz.underlying4 g5
        cases e0
        cases e1
        cases e2
        cases e3
        cases e4
        cases e5
        refine ⟨⟨y0, y1, y2, y3, y4, y5⟩, fun j v hj => ?_⟩
        have hj6 : j < 6 := by have := (List.getElem?_eq_some_iff.1 hj).1; simpa [Ev.c] using this
        have := hcell j hj6
        rw [Deep.add_add] at this
        rw [this]
        exact hj
    haveI : Inhabited Ev := ⟨⟨0, ⟨#[]⟩, ⟨#[]⟩, ⟨#[]⟩, 0, false⟩⟩
    obtain ⟨Y, hY⟩ := Deep.choose_lt each
    refine ⟨(List.range len).map Y, by simp, hl, hm, ?_⟩
    by_cases h0 : len = 0
    · subst h0; exact .inl rfl
    · obtain ⟨b, off, spot⟩ := x
      have hc := hY 0 (by omega) 0 _ rfl
      have hspot : spot = none := by simpa [Addr.add] using World.cell?_spot hc
      subst hspot
      refine .inr ⟨b, off, rfl, fun j y hj => ?_⟩
      rw [List.getElem?_map] at hj
      cases hk : (List.range len)[j]? with
      | none => rw [hk] at hj; cases hj
      | some k =>
        rw [hk] at hj
        cases hj
        obtain ⟨h1, h2⟩ := List.getElem?_eq_some_iff.1 hk
        simp at h1 h2
        subst h2
        have g : ∀ i v, (Y j).c[i]? = some v → W.cell? ⟨b, off + j * 6 + i, none⟩ = some v := fun i v hv => by
          have := hY j h1 i v hv
          rw [add_plain] at this
          rw [Nat.add_assoc]
          exact this
        exact ⟨g 0 _ rfl, g 1 _ rfl, g 2 _ rfl, g 3 _ rfl, g 4 _ rfl, g 5 _ rfl⟩
end Go.Proofs.YteeanpfhngoobaaGreat
