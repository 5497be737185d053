/- The document's own Lines: which lines any code points are, or that they are none. -/
import Derived.Test.YtcijjbnkdjmklaaSame
set_option linter.unusedVariables false
set_option linter.unusedSimpArgs false
namespace Go.Proofs.Ytcijjbnkdjmklaa
open Go.RowKit Go.Shelf

theorem slice_mid (b o len cap f i : Nat) (hf : f ≤ i) (hi : i ≤ cap) (hc : f < cap) (w2 : World) :
    (Instr.slice 22 (.slice (some ⟨b, o, none⟩) len cap) (some (.int .i64 f)) (some (.int .i64 i)) none).run Try.prog w2 = .ok (.slice (some ⟨b, o + f, none⟩) (i - f) (cap - f)) w2 := by
  have h0 : (f : Int) ≤ i := by omega
  have h1 : (i : Int) ≤ cap := by omega
  have h2 : ¬ cap = f := by omega
  have u := Try.underlying22
  have z := Try.sizeOf3
  simp [go_sem, h0, h1, h2, add_plain]

theorem line_piece (b o cap fk n : Nat) (t : List Int) (w : World) (hn : fk + n ≤ t.length) (hl : t.length ≤ cap) (hm : t.length ≤ 1099511627776) (h : Is w (some ⟨b, o, none⟩) t) :
    Calls Try.prog 23 #[.slice (some ⟨b, o + fk, none⟩) n (cap - fk)] w fun e w' => ∃ v, e = .returned (.agg #[.int .i64 (lineP (pieceOf t (fk, n))).1, v]) ∧ Copied w (lineP (pieceOf t (fk, n))).2 w' v := by
  have hlen : (pieceOf t (fk, n)).length = n := by simp [pieceOf]; omega
  have := line_any (some ⟨b, o + fk, none⟩) (pieceOf t (fk, n)) (cap - fk) w (by omega) (by omega) ((h.drop fk).take n)
  rw [hlen] at this
  exact this

theorem bad_false {c : Int} (h : badP c = false) : printP c = true ∧ (c == 65279) = false := by
  unfold badP at h
  simp at h
  exact ⟨h.2, by simpa using h.1⟩
theorem bad_true {c : Int} (h : badP c = true) : printP c = false ∨ (printP c = true ∧ c = 65279) := by
  unfold badP at h
  cases hp : printP c
  · exact .inl rfl
  · rw [hp] at h; simp at h; exact .inr ⟨rfl, h⟩

theorem upTo_is {t : List Int} {f i : Nat} (hf : f ≤ i) (hi : i < t.length) (h : ∀ j, f ≤ j → j < i → endP (iAt t j) = false) (he : endP (iAt t i) = true) : upTo endP (t.drop f) = i - f := by
  refine run_eq _ _ _ (by rw [List.length_drop]; omega) (fun j hj => ?_) (fun _ => ?_)
  · have := h (f + j) (by omega) (by omega)
    have e : iAt (t.drop f) j = iAt t (f + j) := by simp [iAt]
    rw [e, this]; rfl
  · have e : iAt (t.drop f) (i - f) = iAt t i := by simp [iAt]; congr 2; omega
    rw [e, he]; rfl
theorem upTo_none {t : List Int} {f : Nat} (hf : f ≤ t.length) (h : ∀ j, f ≤ j → j < t.length → endP (iAt t j) = false) : upTo endP (t.drop f) = t.length - f := by
  refine run_eq _ _ _ (by rw [List.length_drop]; omega) (fun j hj => ?_) (fun h' => by rw [List.length_drop] at h'; omega)
  have := h (f + j) (by omega) (by omega)
  have e : iAt (t.drop f) j = iAt t (f + j) := by simp [iAt]
  rw [e, this]; rfl

/-- Between two rounds of the second loop: from, i, the lines so far. -/
def Mid (t : List Int) (fk ik : Nat) (pre : List (Nat × Nat)) : Prop :=
  fk ≤ ik ∧ ik ≤ t.length ∧ cutsAt t 0 = pre ++ cutsAt t fk ∧ (∀ j, fk ≤ j → j < ik → endP (iAt t j) = false) ∧ pre.length ≤ fk

theorem Mid.on {t : List Int} {fk ik : Nat} {pre : List (Nat × Nat)} (h : Mid t fk ik pre) (hi : ik < t.length) (he : endP (iAt t ik) = false) : Mid t fk (ik + 1) pre := by
  obtain ⟨h1, h2, h3, h4, h5⟩ := h
  refine ⟨by omega, by omega, h3, fun j a b => ?_, h5⟩
  by_cases e : j = ik
  · rw [e]; exact he
  · exact h4 j a (by omega)
theorem Mid.end {t : List Int} {fk ik : Nat} {pre : List (Nat × Nat)} (h : Mid t fk ik pre) (hi : ik < t.length) (he : endP (iAt t ik) = true) {s : Nat} (hs : endSz (t.drop ik) = s) : Mid t (ik + s) (ik + s) (pre ++ [(fk, ik - fk)]) := by
  obtain ⟨h1, h2, h3, h4, h5⟩ := h
  have hu := upTo_is h1 hi h4 he
  have hz := endSz_pos (t.drop ik)
  have hz2 := endSz_le (t.drop ik) (by rw [List.length_drop]; omega)
  rw [List.length_drop] at hz2
  refine ⟨Nat.le_refl _, by omega, ?_, (fun j a b => by omega), by simp; omega⟩
  rw [h3, cuts_more (by omega) hu (by omega), show fk + (ik - fk) = ik by omega, hs]
  simp
theorem Mid.last {t : List Int} {fk : Nat} {pre : List (Nat × Nat)} (h : Mid t fk t.length pre) (hf : fk < t.length) : cutsAt t 0 = pre ++ [(fk, t.length - fk)] := by
  obtain ⟨h1, h2, h3, h4, h5⟩ := h
  rw [h3, cuts_last hf (by rw [upTo_none h1 h4]; omega)]
theorem Mid.none {t : List Int} {fk : Nat} {pre : List (Nat × Nat)} (h : Mid t fk t.length pre) (hf : ¬ fk < t.length) : cutsAt t 0 = pre := by
  obtain ⟨h1, h2, h3, h4, h5⟩ := h
  rw [h3, cuts_end hf, List.append_nil]

theorem endSz_2 {t : List Int} {ik : Nat} (h : ik + 1 < t.length) (h1 : iAt t ik = 13) (h2 : iAt t (ik + 1) = 10) : endSz (t.drop ik) = 2 := by
  unfold endSz
  rw [if_pos ⟨by rw [List.length_drop]; omega, by simpa [iAt] using h1, by simpa [iAt] using h2⟩]
theorem endSz_1 {t : List Int} {ik : Nat} (h : ¬ (ik + 1 < t.length ∧ iAt t ik = 13 ∧ iAt t (ik + 1) = 10)) : endSz (t.drop ik) = 1 := by
  unfold endSz
  rw [if_neg]
  rintro ⟨h1, h2, h3⟩
  rw [List.length_drop] at h1
  exact h ⟨by omega, by simpa [iAt] using h2, by simpa [iAt] using h3⟩

def mapL (t : List Int) (pre : List (Nat × Nat)) : List (Nat × List Int) := pre.map fun x => lineP (pieceOf t x)
theorem mapL_snoc (t : List Int) (pre : List (Nat × Nat)) (x : Nat × Nat) : mapL t (pre ++ [x]) = mapL t pre ++ [lineP (pieceOf t x)] := by simp [mapL]
theorem mapL_len (t : List Int) (pre : List (Nat × Nat)) : (mapL t pre).length = pre.length := by simp [mapL]
theorem mapL_all (t : List Int) {pre : List (Nat × Nat)} (h : cutsAt t 0 = pre) : mapL t pre = linesP t := by unfold linesP; rw [h]; rfl
end Go.Proofs.Ytcijjbnkdjmklaa
