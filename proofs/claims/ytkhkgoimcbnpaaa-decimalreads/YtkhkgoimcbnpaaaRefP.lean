/- The document's floats, in plain terms: the same as the program's. -/
import Derived.Test.YtkhkgoimcbnpaaaGram
set_option linter.unusedVariables false
set_option linter.unusedSimpArgs false
namespace Go.Proofs.Ytkhkgoimcbnpaaa
open Go.RowKit

theorem mem_tw {p : UInt8 → Bool} {c : UInt8} : ∀ {l : List UInt8}, c ∈ l.takeWhile p → p c = true
  | [], h => by simp at h
  | a :: t, h => by
    rw [List.takeWhile_cons] at h
    split at h
    · rename_i ha
      rcases List.mem_cons.1 h with rfl | h
      · exact ha
      · exact mem_tw h
    · simp at h
def tk (l : List UInt8) : List UInt8 := l.takeWhile isD
def dk (l : List UInt8) : List UInt8 := l.dropWhile isD
theorem tk_dk (l : List UInt8) : l = tk l ++ dk l := (List.takeWhile_append_dropWhile).symm
theorem tk_all (l : List UInt8) : (tk l).all isD = true := by
  unfold tk
  rw [List.all_eq_true]
  intro c hc
  exact mem_tw hc
theorem dk_head {l : List UInt8} {c : UInt8} {r : List UInt8} (h : dk l = c :: r) : isD c = false := by
  unfold dk at h
  have := List.head_dropWhile_not isD (l := l) (by rw [h]; simp)
  simpa [h] using this
theorem numF_bad {w p : List UInt8} {c : UInt8} (x : Int) (h : c ∈ w ++ p) (hc : isD c = false) : numF w p x = none := by
  unfold numF okL
  have : (w ++ p).all isD = false := by
    cases e : (w ++ p).all isD
    · rfl
    · rw [List.all_eq_true.1 e c h] at hc; cases hc
  rw [this]
  simp
theorem ahead_pre {t : ByteArray} {l u : List UInt8} {c : UInt8} (h : t.data.toList = l ++ c :: u) (hl : ∀ x ∈ l, isE x = false) (hc : isE c = false) :
    aheadK t (kT t) = none ∨ ∃ u' x, aheadK t (kT t) = some (⟨(l ++ c :: u').toArray⟩, x) := by
  have hs : u = u.takeWhile (fun x => !isE x) ++ u.dropWhile (fun x => !isE x) := (List.takeWhile_append_dropWhile).symm
  have hno : ∀ x ∈ l ++ c :: u.takeWhile (fun x => !isE x), isE x = false := by
    intro x hx
    rw [List.mem_append, List.mem_cons] at hx
    rcases hx with hx | rfl | hx
    · exact hl x hx
    · exact hc
    · have := mem_tw hx
      simpa using this
  cases hd : u.dropWhile (fun x => !isE x) with
  | nil =>
    rw [hd, List.append_nil] at hs
    right
    refine ⟨u, 0, ?_⟩
    rw [ahead_no (by rw [h]; rw [← hs] at hno; exact hno), ← h, Lib.mk_data]
  | cons e u2 =>
    have he : isE e = true := by
      have := List.head_dropWhile_not (fun x => !isE x) (l := u) (by rw [hd]; simp)
      simpa [hd] using this
    rw [hd] at hs
    have h' : t.data.toList = (l ++ c :: u.takeWhile (fun x => !isE x)) ++ e :: u2 := by
      rw [h]
      conv => lhs; rw [hs]
      simp
    rw [ahead_e h' hno he]
    cases expP ⟨u2.toArray⟩ with
    | none => exact .inl rfl
    | some x => exact .inr ⟨_, x, rfl⟩
/-- A sign that stands neither for a digit nor for a point nor for e, behind digits. -/
theorem flt_bad1 {t : ByteArray} {w u : List UInt8} {c : UInt8} (h : t.data.toList = w ++ c :: u) (hw : w.all isD = true) (hD : isD c = false) (hE : isE c = false) (h46 : c ≠ 46) : fltK t (kT t) = none := by
  unfold fltK
  rcases ahead_pre h (dig_E hw) hE with e | ⟨u', x, e⟩
  · rw [e]; rfl
  · rw [e]
    show fltA ⟨(w ++ c :: u').toArray⟩ x = none
    by_cases hdot : (46 : UInt8) ∈ u'
    · obtain ⟨a, b, rfl, ha⟩ := List.append_of_mem hdot |> fun ⟨a, b, e⟩ => (⟨u'.takeWhile (fun x => x != 46), (u'.dropWhile (fun x => x != 46)).drop 1, by
        have h1 : u' = u'.takeWhile (fun x => x != 46) ++ u'.dropWhile (fun x => x != 46) := (List.takeWhile_append_dropWhile).symm
        cases hd : u'.dropWhile (fun x => x != 46) with
        | nil =>
          rw [hd, List.append_nil] at h1
          rw [h1] at hdot
          have := mem_tw hdot
          simp at this
        | cons y z =>
          have hy : y = 46 := by
            have := List.head_dropWhile_not (fun x => x != 46) (l := u') (by rw [hd]; simp)
            simpa [hd] using this
          rw [hd] at h1
          rw [hy] at h1
          exact h1, fun x hx => by have := mem_tw hx; simpa using this⟩ : ∃ a b, u' = a ++ 46 :: b ∧ ∀ x ∈ a, x ≠ 46)
      have hl : ∀ x ∈ w ++ c :: a, x ≠ 46 := by
        intro x hx
        rw [List.mem_append, List.mem_cons] at hx
        rcases hx with hx | rfl | hx
        · exact dig_dot hw x hx
        · exact h46
        · exact ha x hx
      rw [fltA_dot x (l := w ++ c :: a) (r := b) (by simp) hl]
      exact numF_bad x (c := c) (by simp) hD
    · have hl : ∀ x ∈ (⟨(w ++ c :: u').toArray⟩ : ByteArray).data.toList, x ≠ 46 := by
        intro x hx
        have hx' : x ∈ w ++ c :: u' := hx
        rw [List.mem_append, List.mem_cons] at hx'
        rcases hx' with hx' | rfl | hx'
        · exact dig_dot hw x hx'
        · exact h46
        · rintro rfl
          exact hdot hx'
      rw [fltA_no x hl]
      exact numF_bad x (c := c) (by simp) hD
/-- The same behind a point. -/
theorem flt_bad2 {t : ByteArray} {w p u : List UInt8} {c : UInt8} (h : t.data.toList = w ++ 46 :: (p ++ c :: u)) (hw : w.all isD = true) (hp : p.all isD = true) (hD : isD c = false) (hE : isE c = false) : fltK t (kT t) = none := by
  have h' : t.data.toList = (w ++ 46 :: p) ++ c :: u := by rw [h]; simp
  have hl : ∀ x ∈ w ++ 46 :: p, isE x = false := by
    intro x hx
    rw [List.mem_append, List.mem_cons] at hx
    rcases hx with hx | rfl | hx
    · exact dig_E hw x hx
    · rfl
    · exact dig_E hp x hx
  unfold fltK
  rcases ahead_pre h' hl hE with e | ⟨u', x, e⟩
  · rw [e]; rfl
  · rw [e]
    show fltA ⟨((w ++ 46 :: p) ++ c :: u').toArray⟩ x = none
    rw [fltA_dot x (l := w) (r := p ++ c :: u') (by simp) (dig_dot hw)]
    exact numF_bad x (c := c) (by simp) hD
end Go.Proofs.Ytkhkgoimcbnpaaa
