/- How the arguments of TagsPlay are opened. -/
import Derived.Test.YtmeojnpehmhmoaaBase
import Derived.Test.YtmeojnpehmhmoaaPlz
import Derived.Deep.SlicePairs
import Derived.SliceStrings
import Derived.SizedLaws
set_option linter.all false
namespace Go.Proofs.Ytmeojnpehmhmoaa
open Go.ChangeShapes Go.WideShapes Go.ChangeAt Go.RowKit

theorem strs_open {H : Type} {enc : TypeId × Value → H} {W : World} {a : Option Addr} {len cap : Nat} {d : DataW H} {p : List MemPlace}
    (h : DataW.Trod enc Try.prog W 0 (fun _ => true) true 23 (.slice a len cap) d p) : ∃ Ws : List ByteArray, Ws.length = len ∧ len ≤ maxLen ∧ Sts W a Ws := by
  obtain ⟨fuel, hf⟩ := h
  rcases open_strings Try.underlying23 Try.underlying9 (by kernel_rfl) hf with ⟨hcs, _⟩ | ⟨x, l, c, ss, hcs, _, hl, hm, hz, _, hcell, _⟩
  · simp [Value.cells] at hcs
    obtain ⟨rfl, rfl, rfl⟩ := hcs
    exact ⟨[], rfl, by unfold maxLen; omega, fun i hi => by simp at hi⟩
  · simp [Value.cells] at hcs
    obtain ⟨rfl, rfl, rfl⟩ := hcs
    simp only [if_true] at hz
    refine ⟨ss.take len, by simp; omega, by omega, fun i hi => ?_⟩
    have hi : i < len := by simp at hi; omega
    have hci := hcell i (by omega)
    obtain ⟨b, off, spot⟩ := x
    have hc := hcell 0 (by omega)
    have hspot : spot = none := by simpa [Addr.add] using World.cell?_spot hc
    subst hspot
    refine ⟨b, off, rfl, ?_⟩
    rw [add_plain] at hci
    rw [hci]
    unfold sAt
    rw [List.getElem?_take, if_pos hi, List.getElem?_eq_getElem (by omega)]
    simp [List.getD]
    rw [List.getElem?_eq_getElem (by omega)]
    rfl
theorem weights_all {H : Type} {P : Program} {e : TypeId} : ∀ {l : List (DataW H)} {d : DataW H}, d ∈ l → ∀ n ∈ d.weights P e, n ∈ DataW.weightsAll P e l
  | x :: l, d, h, n, hn => by
    unfold DataW.weightsAll
    rcases List.mem_cons.1 h with rfl | h
    · exact List.mem_append_left _ hn
    · exact List.mem_append_right _ (weights_all h n hn)
theorem pairs_open {H : Type} {enc : TypeId × Value → H} {W : World} {a : Option Addr} {len cap : Nat} {d : DataW H} {p : List MemPlace}
    (h : DataW.Trod enc Try.prog W 0 (fun _ => true) true 22 (.slice a len cap) d p) : ∃ L : List Mn, L.length = len ∧ len ≤ maxLen ∧ Prs W a L ∧ ∀ n, (∀ k ∈ d.weights Try.prog 22, k ≤ n) → ∀ x ∈ L, x.2.size ≤ n := by
  obtain ⟨fuel, hf⟩ := h
  rcases Deep.open_slice_pairs Try.underlying22 Try.underlying34 (by kernel_rfl) rfl rfl (by kernel_rfl) (by kernel_rfl) hf with ⟨hcs, _⟩ | ⟨x, l, c, m, n, V0, V1, D0, D1, P0, P1, hcs, _, hl, hm, hmm, hd, hx⟩
  · simp [Value.cells] at hcs
    obtain ⟨rfl, rfl, rfl⟩ := hcs
    exact ⟨[], rfl, by unfold maxLen; omega, fun i hi => by simp at hi, fun n _ x hx => by cases hx⟩
  · simp [Value.cells] at hcs
    obtain ⟨rfl, rfl, rfl⟩ := hcs
    simp only [if_true] at hmm
    have each : ∀ i, i < len → ∃ y : Mn, V0 i = .string y.1 ∧ V1 i = .string y.2 ∧ D1 i = .lit (.string y.2.data.toList) := by
      intro i hi
      obtain ⟨e0, e1, g0, g1⟩ := hx i (by omega)
      obtain ⟨s0, h0, -, -⟩ := DataW.trod_string Try.underlying9 g0
      obtain ⟨s1, h1, h2, -⟩ := DataW.trod_string Try.underlying9 g1
      injection h2 with h2 _
      exact ⟨(s0, s1), by simpa using h0, by simpa using h1, h2⟩
    haveI : Inhabited Mn := ⟨(⟨#[]⟩, ⟨#[]⟩)⟩
    obtain ⟨Y, hY⟩ := Deep.choose_lt each
    have hat : ∀ i, i < len → mAt ((List.range len).map Y) i = Y i := by
      intro i hi
      rw [mAt_get (by simpa using hi)]
      simp
    refine ⟨(List.range len).map Y, by simp, by omega, fun i hi => ?_, fun n hn y hy => ?_⟩
    · have hi : i < len := by simpa using hi
      rw [hat i hi]
      obtain ⟨b, off, spot⟩ := x
      have hc := (hx 0 (by omega)).1
      have hspot : spot = none := by simpa [Addr.add] using World.cell?_spot hc
      subst hspot
      obtain ⟨y1, y2, -⟩ := hY i hi
      obtain ⟨e0, e1, -, -⟩ := hx i (by omega)
      rw [add_plain] at e0 e1
      exact ⟨b, off, rfl, by rw [e0, y1], by rw [Nat.add_assoc, e1, y2]⟩
    · obtain ⟨i, hi, rfl⟩ := List.mem_map.1 hy
      have hi : i < len := by simpa using hi
      obtain ⟨-, -, y3⟩ := hY i hi
      injection hd with hd _
      have hmem : (Y i).2.data.toList.length ∈ d.weights Try.prog 22 := by
        rw [hd]
        unfold DataW.weights
        rw [Try.underlying22]
        refine List.mem_cons_of_mem _ (List.mem_append_left _ ?_)
        refine weights_all (d := .agg [D0 i, D1 i]) (List.mem_map.2 ⟨i, by simpa using hi, rfl⟩) _ ?_
        unfold DataW.weights
        rw [Try.underlying34]
        show _ ∈ DataW.weightsEach _ [9, 9] _
        refine DataW.weights_mem_each (j := 1) (t := 9) (d := D1 i) rfl rfl _ ?_
        rw [y3]
        unfold DataW.weights
        simp
      have := hn _ hmem
      rw [sizeD]
      exact this
end Go.Proofs.Ytmeojnpehmhmoaa
